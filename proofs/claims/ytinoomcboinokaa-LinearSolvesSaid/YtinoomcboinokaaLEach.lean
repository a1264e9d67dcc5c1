/- linear.each: the iterator over the values of a function, one entry after the other. -/
import Derived.Test.YtinoomcboinokaaLPivots
namespace Go.Proofs.Ytinoomcboinokaa
open Go Go.RowKit Go.Shelf Num
attribute [local go_sem] Oper.semAt_some

theorem eachI_in (F : Fence) (n : Nat) (hf : F.fn 41) (hro : F.round = none) (A : Option Addr) (m c gf : Nat) (bv : Value) (w : World) :
    CallsIn F n Try.prog 41 #[.slice A m c, .func (.func gf) #[bv] #[]] w fun e w' => e = .returned (.func (.func 57) #[] #[.pointer (some ⟨w.heap.size, 0, none⟩), .pointer (some ⟨w.heap.size + 1, 0, none⟩)]) ∧ w' = (w.alloc (.cells #[.slice A m c] 22)).alloc (.cells #[.func (.func gf) #[bv] #[]] 24) := by
  refine callsIn_of_wp Try.func41 rfl hf ?_ hro
  simp only [Try.ntmps41, List.size_toArray, List.length_cons, List.length_nil, Nat.reduceAdd, Nat.reduceSub, Array.replicate_succ, Array.replicate_zero, List.push_toArray, List.append_toArray, List.nil_append, List.cons_append]
  gi_wp2
  go_ret
  exact ⟨rfl, rfl⟩
theorem eachL_in (F : Fence) (n : Nat) (hf : F.fn 36) (hro : F.round = none) (A : Option Addr) (m c gf : Nat) (bv : Value) (w : World) :
    CallsIn F n Try.prog 36 #[.slice A m c, .func (.func gf) #[bv] #[]] w fun e w' => e = .returned (.func (.func 50) #[] #[.pointer (some ⟨w.heap.size, 0, none⟩), .pointer (some ⟨w.heap.size + 1, 0, none⟩)]) ∧ w' = (w.alloc (.cells #[.slice A m c] 29)).alloc (.cells #[.func (.func gf) #[bv] #[]] 57) := by
  refine callsIn_of_wp Try.func36 rfl hf ?_ hro
  simp only [Try.ntmps36, List.size_toArray, List.length_cons, List.length_nil, Nat.reduceAdd, Nat.reduceSub, Array.replicate_succ, Array.replicate_zero, List.push_toArray, List.append_toArray, List.nil_append, List.cons_append]
  gi_wp2
  go_ret
  exact ⟨rfl, rfl⟩

set_option maxRecDepth 100000 in
set_option maxHeartbeats 4000000 in
theorem eachI1_in (n : Nat) (h1 : 1 ≤ n) (l Lb Fb m c : Nat) (A : Option Addr) (bv : Value) (x : Nat → Value) (hm : m ≤ 1000000) (J : Nat → World → Prop) (w : World)
    (hL : w.cell? ⟨Lb, 0, none⟩ = some (.slice A m c)) (hF : ∀ k w', J k w' → w'.cell? ⟨Fb, 0, none⟩ = some (.func (.func 42) #[bv] #[])) (h0 : J 0 w)
    (hR : ∀ k w', k < m → J k w' → (∃ b o, A = some ⟨b, o, none⟩ ∧ w'.cell? ⟨b, o + k, none⟩ = some (x k)) ∧ CallsIn Fence.wide (n - 1) Try.prog 42 #[bv, x k] w' fun e w1 => ∃ r, e = .returned r ∧ YieldAt Fence.wide (n - 1) Try.prog l #[r] w1 fun e w2 => e = .returned (.bool true) ∧ J (k + 1) w2) :
    CallsIn Fence.wide n Try.prog 57 #[.func (.yield l) #[] #[], .pointer (some ⟨Lb, 0, none⟩), .pointer (some ⟨Fb, 0, none⟩)] w fun e w' => (∃ v, e = .returned v) ∧ J m w' := by
  have HF := Lib.hid hF
  have HR := Lib.hid hR
  have H0 := Lib.hid h0
  clear hF hR h0
  refine callsIn_of_wp Try.func57 rfl trivial ?_ rfl
  simp only [Try.ntmps57, List.size_toArray, List.length_cons, List.length_nil, Nat.reduceAdd, Nat.reduceSub, Array.replicate_succ, Array.replicate_zero, List.push_toArray, List.append_toArray, List.nil_append, List.cons_append]
  gi_wp2
  gi_loopw [8] (fun t wr => ∃ k : Nat, t = .int .i64 k ∧ k ≤ m ∧ Hid (J k wr)) (fun t _ => m - (intOf t).toNat)
  case atStart => exact ⟨0, rfl, Nat.zero_le _, H0⟩
  case round =>
    obtain ⟨k, rfl, hk, HI⟩ := hrel
    by_cases hlt : k < m
    · have c1 := HF.out k wr HI.out
      obtain ⟨⟨b, o, rfl, hx⟩, hc⟩ := HR.out k wr hlt HI.out
      have HC := Lib.hid hc
      clear hc
      generalize x k = xk at hx HC
      gi_wp2
      refine ⟨trivial, HC.out.mono ?_⟩
      rintro e W1 ⟨r, rfl, fn, tmps, assign, body, hy, hR⟩
      have HRR := Lib.hid hR
      clear hR
      gi_wp2
      refine HRR.out.mono ?_
      rintro e W3 ⟨rfl, hJ3⟩
      have HJ3 := Lib.hid hJ3
      clear hJ3
      gi_wp2
      go_roundw
      case rel => exact ⟨k + 1, by go_num, by omega, HJ3⟩
      case measure => simp [intOf]; omega
    · obtain rfl : k = m := by omega
      gi_wp2
      go_end0
      exact ⟨⟨_, rfl⟩, HI.out⟩
set_option maxRecDepth 100000 in
set_option maxHeartbeats 4000000 in
theorem eachL1_in (n : Nat) (h1 : 1 ≤ n) (l Lb Fb m c : Nat) (A : Option Addr) (bv : Value) (x : Nat → Value) (hm : m ≤ 1000000) (J : Nat → World → Prop) (w : World)
    (hL : w.cell? ⟨Lb, 0, none⟩ = some (.slice A m c)) (hF : ∀ k w', J k w' → w'.cell? ⟨Fb, 0, none⟩ = some (.func (.func 26) #[bv] #[])) (h0 : J 0 w)
    (hR : ∀ k w', k < m → J k w' → (∃ b o, A = some ⟨b, o, none⟩ ∧ w'.cell? ⟨b, o + k, none⟩ = some (x k)) ∧ CallsIn Fence.wide (n - 1) Try.prog 26 #[bv, x k] w' fun e w1 => ∃ r, e = .returned r ∧ YieldAt Fence.wide (n - 1) Try.prog l #[r] w1 fun e w2 => e = .returned (.bool true) ∧ J (k + 1) w2) :
    CallsIn Fence.wide n Try.prog 50 #[.func (.yield l) #[] #[], .pointer (some ⟨Lb, 0, none⟩), .pointer (some ⟨Fb, 0, none⟩)] w fun e w' => (∃ v, e = .returned v) ∧ J m w' := by
  have HF := Lib.hid hF
  have HR := Lib.hid hR
  have H0 := Lib.hid h0
  clear hF hR h0
  refine callsIn_of_wp Try.func50 rfl trivial ?_ rfl
  simp only [Try.ntmps50, List.size_toArray, List.length_cons, List.length_nil, Nat.reduceAdd, Nat.reduceSub, Array.replicate_succ, Array.replicate_zero, List.push_toArray, List.append_toArray, List.nil_append, List.cons_append]
  gi_wp2
  gi_loopw [8] (fun t wr => ∃ k : Nat, t = .int .i64 k ∧ k ≤ m ∧ Hid (J k wr)) (fun t _ => m - (intOf t).toNat)
  case atStart => exact ⟨0, rfl, Nat.zero_le _, H0⟩
  case round =>
    obtain ⟨k, rfl, hk, HI⟩ := hrel
    by_cases hlt : k < m
    · have c1 := HF.out k wr HI.out
      obtain ⟨⟨b, o, rfl, hx⟩, hc⟩ := HR.out k wr hlt HI.out
      have HC := Lib.hid hc
      clear hc
      generalize x k = xk at hx HC
      gi_wp2
      refine ⟨trivial, HC.out.mono ?_⟩
      rintro e W1 ⟨r, rfl, fn, tmps, assign, body, hy, hR⟩
      have HRR := Lib.hid hR
      clear hR
      gi_wp2
      refine HRR.out.mono ?_
      rintro e W3 ⟨rfl, hJ3⟩
      have HJ3 := Lib.hid hJ3
      clear hJ3
      gi_wp2
      go_roundw
      case rel => exact ⟨k + 1, by go_num, by omega, HJ3⟩
      case measure => simp [intOf]; omega
    · obtain rfl : k = m := by omega
      gi_wp2
      go_end0
      exact ⟨⟨_, rfl⟩, HI.out⟩
end Go.Proofs.Ytinoomcboinokaa
