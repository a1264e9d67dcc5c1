/- linear.value: Horner's rule over slices.Backward. -/
import Derived.Test.YtinoomcboinokaaGreatLElim
import Derived.Test.YtinoomcboinokaaGreatLKit
namespace Go.Proofs.YtinoomcboinokaaGreat
open Go Go.RowKit Go.Shelf Num
attribute [local go_sem] Oper.semAt_some

theorem back_in (F : Fence) (n : Nat) (hf : F.fn 51) (hro : F.round = none) (A : Option Addr) (m c : Nat) (w : World) :
    CallsIn F n Tryz.prog 51 #[.slice A m c] w fun e w' => e = .returned (.func (.func 78) #[] #[.pointer (some ⟨w.heap.size, 0, none⟩)]) ∧ w' = w.alloc (.cells #[.slice A m c] 22) := by
  refine callsIn_of_wp Tryz.func51 rfl hf ?_ hro
  simp only [Tryz.ntmps51, List.size_toArray, List.length_cons, List.length_nil, Nat.reduceAdd, Nat.reduceSub, Array.replicate_succ, Array.replicate_zero, List.push_toArray, List.append_toArray, List.nil_append, List.cons_append]
  gi_wp2
  go_ret
  exact ⟨rfl, rfl⟩
set_option maxRecDepth 100000 in
set_option maxHeartbeats 4000000 in
theorem back1_in (n : Nat) (h1 : 1 ≤ n) (l Lb b o m c : Nat) (x : Nat → Value) (hm : m ≤ 1000000) (J : Nat → World → Prop) (w : World)
    (hL : ∀ k w', J k w' → w'.cell? ⟨Lb, 0, none⟩ = some (.slice (some ⟨b, o, none⟩) m c)) (h0 : J 0 w)
    (hR : ∀ k w', k < m → J k w' → w'.cell? ⟨b, o + (m - 1 - k), none⟩ = some (x k) ∧ YieldAt Fence.wide (n - 1) Tryz.prog l #[.int .i64 ((m - 1 - k : Nat) : Int), x k] w' fun e w2 => e = .returned (.bool true) ∧ J (k + 1) w2) :
    CallsIn Fence.wide n Tryz.prog 78 #[.func (.yield l) #[] #[], .pointer (some ⟨Lb, 0, none⟩)] w fun e w' => (∃ v, e = .returned v) ∧ J m w' := by
  have HL := Lib.hid hL
  have HR := Lib.hid hR
  have H0 := Lib.hid h0
  have c0 := hL 0 w h0
  have hw0 : IntKind.i64.wrap ((m : Int) - 1) = (m : Int) - 1 := IntWalk.i64_in _ ⟨by omega, by omega⟩
  clear hL hR h0
  refine callsIn_of_wp Tryz.func78 rfl trivial ?_ rfl
  simp only [Tryz.ntmps78, List.size_toArray, List.length_cons, List.length_nil, Nat.reduceAdd, Nat.reduceSub, Array.replicate_succ, Array.replicate_zero, List.push_toArray, List.append_toArray, List.nil_append, List.cons_append]
  gi_wp2
  clear c0
  gi_loopw [3] (fun t wr => ∃ k : Nat, t = .int .i64 ((m : Int) - 1 - k) ∧ k ≤ m ∧ Hid (J k wr)) (fun t _ => (intOf t + 1).toNat)
  case atStart => exact ⟨0, by simp, Nat.zero_le _, H0⟩
  case round =>
    obtain ⟨k, rfl, hk, HI⟩ := hrel
    by_cases hlt : k < m
    · have c1 := HL.out k wr HI.out
      obtain ⟨hx, hy⟩ := HR.out k wr hlt HI.out
      obtain ⟨q, hq⟩ : ∃ q : Nat, (m : Int) - 1 - k = (q : Int) := ⟨m - 1 - k, by omega⟩
      have hq2 : m - 1 - k = q := by omega
      rw [hq2] at hx hy
      have HY := Lib.hid hy
      generalize x k = xk at hx HY
      have hge : decide ((q : Int) ≥ 0) = true := decide_eq_true (by omega)
      have d1 : (0 : Int) ≤ q := by omega
      have d2 : (q : Int) < (m : Int) := by omega
      have hws : IntKind.i64.wrap ((q : Int) - 1) = (q : Int) - 1 := IntWalk.i64_in _ ⟨by omega, by omega⟩
      have HQ := Lib.hid hq
      rw [hq]
      obtain ⟨fn, tmps, assign, body, hyy, hRR⟩ := HY.out
      have HRR := Lib.hid hRR
      clear hy hq hq2 hRR HY
      gi_wp2
      refine HRR.out.mono ?_
      rintro e W3 ⟨rfl, hJ3⟩
      have HJ3 := Lib.hid hJ3
      clear hJ3
      gi_wp2
      go_roundw
      case rel => exact ⟨k + 1, by have := HQ.out; congr 1; omega, by omega, HJ3⟩
      case measure => simp [intOf]
    · obtain rfl : m = k := by omega
      have hlt0 : decide ((m : Int) - 1 - m ≥ 0) = false := decide_eq_false (by omega)
      gi_wp2
      go_end0
      exact ⟨⟨_, rfl⟩, HI.out⟩

/-- Horner's rule modulo p, from the last coefficient on. -/
def horV (p x : Int) (n : Nat) (f : Nat → Int) : Nat → Int
  | 0 => 0
  | k + 1 => (horV p x n f k * x + f (n - 1 - k)) % p
/-- Behind k coefficients. -/
structure VlI (w : World) (b o n c : Nat) (f : Nat → Int) (x p : Int) (k : Nat) (X : World) : Prop where
  bx : Row X w.heap.size 3 #[.int .i64 x]
  bp : Row X (w.heap.size + 1) 3 #[.int .i64 p]
  bs : Row X (w.heap.size + 2) 3 #[.int .i64 (horV p x n f k)]
  bl : Row X (w.heap.size + 3) 22 #[.slice (some ⟨b, o, none⟩) n c]
  be : Below w.heap.size w X
theorem VlI.put {w : World} {b o n c : Nat} {f : Nat → Int} {x p : Int} {k : Nat} {X : World} (h : VlI w b o n c f x p k X) {l : Nat} (hl : w.heap.size + 4 ≤ l) (o' : Obj) : VlI w b o n c f x p k (X.putObj l o') :=
  ⟨(World.putObj_heap_other (by omega)).trans h.bx, (World.putObj_heap_other (by omega)).trans h.bp, (World.putObj_heap_other (by omega)).trans h.bs, (World.putObj_heap_other (by omega)).trans h.bl, h.be.os, h.be.tape, h.be.output, by simp; exact h.be.size, fun q hq => (World.putObj_heap_other (by omega)).trans (h.be.block q hq)⟩
theorem VlI.below {w : World} {b o n c : Nat} {f : Nat → Int} {x p : Int} {k : Nat} {X Y : World} (h : VlI w b o n c f x p k X) (hb : Below X.heap.size X Y) : VlI w b o n c f x p k Y :=
  ⟨h.bx.below hb h.bx.lt, h.bp.below hb h.bp.lt, h.bs.below hb h.bs.lt, h.bl.below hb h.bl.lt, h.be.trans (hb.mono h.be.size)⟩
theorem horV_in {p : Int} (hp : 0 < p) (x : Int) (n : Nat) (f : Nat → Int) : ∀ k, 0 ≤ horV p x n f k ∧ horV p x n f k < p
  | 0 => ⟨Int.le_refl 0, hp⟩
  | _ + 1 => ⟨Int.emod_nonneg _ (by omega), Int.emod_lt_of_pos _ hp⟩
set_option maxRecDepth 100000 in
set_option maxHeartbeats 4000000 in
theorem value_any (v : Value) (n : Nat) (f : Nat → Int) (x p : Int) (w : World) (hn0 : 1 ≤ n) (hn : n ≤ 1000) (hp0 : 2 ≤ p) (hp1 : p ≤ 10000) (hx : 0 ≤ x ∧ x < p) (hf : InP p n f) (hv : Vec w (· < w.heap.size) v n f) :
    Calls Tryz.prog 26 #[v, .int .i64 x, .int .i64 p] w fun e w' => e = .returned (.int .i64 (horV p x n f n)) ∧ Below w.heap.size w w' := by
  obtain ⟨b, o, c, rfl, hc, hb, hcc⟩ := hv.at_ hn0
  refine (callsIn_wide (n := 9)).1 ?_
  refine callsIn_of_wp_marks Tryz.func26 rfl trivial ?_ rfl
  simp only [Tryz.ntmps26, List.size_toArray, List.length_cons, List.length_nil, Nat.reduceAdd, Nat.reduceSub, Array.replicate_succ, Array.replicate_zero, List.push_toArray, List.append_toArray, List.nil_append, List.cons_append]
  have HC := Lib.hid hcc
  have HF := Lib.hid hf
  clear hv hcc hf
  gi_wp2
  refine ⟨trivial, (back_in Fence.wide 8 trivial rfl _ _ _ _).mono ?_⟩
  rintro e w' ⟨rfl, rfl⟩
  gi_wp2
  obtain ⟨w0, hw0⟩ : ∃ w0, ((((w.alloc (.cells #[.int .i64 x] 3)).alloc (.cells #[.int .i64 p] 3)).alloc (.cells #[.int .i64 0] 3)).alloc (.cells #[.slice (some ⟨b, o, none⟩) n c] 22)) = w0 := ⟨_, rfl⟩
  have hz0 : w0.heap.size = w.heap.size + 4 := by rw [← hw0]; simp
  have HI0 : VlI w b o n c f x p 0 w0 := by
    rw [← hw0]
    refine ⟨(((row_new' rfl _ _).alloc _).alloc _).alloc _, ((row_new' (by simp) _ _).alloc _).alloc _, (row_new' (by simp) _ _).alloc _, row_new' (by simp) _ _, ?_⟩
    exact ((((Below.refl _ w).alloc (Nat.le_refl _) _).alloc (by simp) _).alloc (by simp; omega) _).alloc (by simp; omega) _
  have HI := Lib.hid HI0
  rw [hw0]
  clear hw0 HI0
  refine wpIn_rangeJ rfl (by omega) (gf := 78) (lb := #[.pointer (some ⟨w.heap.size + 1 + 1 + 1, 0, none⟩)]) rfl trivial (enters_of Tryz.func78 (by kernel_rfl) rfl)
    n (fun k X => VlI w b o n c f x p k X) (fun k y X => y = #[.int .i64 ((n - 1 - k : Nat) : Int), .int .i64 (f (n - 1 - k))] ∧ VlI w b o n c f x p k X) (fun _ _ => True)
    (fun k X o1 o' h _ _ _ => h.put (by omega) o') (fun k y X o1 o' h _ _ _ => ⟨h.1, h.2.put (by omega) o'⟩)
    (fun _ _ _ _ _ => trivial) (fun _ _ _ _ _ _ => trivial) (fun k y X h => by rw [h.1]; rfl)
    (fun o1 o2 => HI.out.below (((Below.refl _ _).alloc (Nat.le_refl _) _).alloc (by simp) _)) ?iter
    (fun y => { tmps := #[.slice (some ⟨b, o, none⟩) n c, .int .i64 x, .int .i64 p, undef, .pointer (some ⟨w.heap.size, 0, none⟩), .pointer (some ⟨w.heap.size + 1, 0, none⟩), .int .i64 0, .pointer (some ⟨w.heap.size + 1 + 1, 0, none⟩), undef, y.getD 1 undef, .slice (some ⟨b, o, none⟩) n c, .func (.func 78) #[] #[.pointer (some ⟨w.heap.size + 1 + 1 + 1, 0, none⟩)], y.getD 0 undef, y.getD 1 undef, undef, undef, undef, undef, undef, undef, undef, undef], defers := [] }) ?assign ?body ?done
  case assign =>
    rintro l k y X K ⟨rfl, _⟩ hK
    gi_wp2
    exact hK
  case iter =>
    intro Lo W1 hLc hLw hb1 hz1 hl1 hd1 hi1 hy
    refine (back1_in 8 (by omega) (w0.heap.size + 1) (w.heap.size + 1 + 1 + 1) b o n c (fun k => .int .i64 (f (n - 1 - k))) (by omega) (fun k X => VlI w b o n c f x p k X ∧ X.heap[w0.heap.size + 1]? = some Lo ∧ X.heap[w0.heap.size]? = some (.deferred (some []))) W1
      (fun k X h => h.1.bl.cell rfl) ⟨hi1, hl1, hd1⟩ ?_).mono ?_
    · rintro k X hk ⟨hA, hl, hd⟩
      exact ⟨(hA.be.cell (p := ⟨b, o + (n - 1 - k), none⟩) hb).trans (HC.out _ (by omega)), (hy k _ X hk ⟨rfl, hA⟩ hl hd).mono fun e W3 h => ⟨h.1, h.2.1, h.2.2.2.1, h.2.2.2.2⟩⟩
    · rintro e W2 ⟨hv, h⟩
      exact ⟨hv, h⟩
  case body =>
    rintro l k y X Lo hk ⟨rfl, hA⟩ hl hLc hLw hd
    have c1 : X.cell? ⟨w.heap.size, 0, none⟩ = some (.int .i64 x) := hA.bx.cell rfl
    have c2 : X.cell? ⟨w.heap.size + 1, 0, none⟩ = some (.int .i64 p) := hA.bp.cell rfl
    have c3 : X.cell? ⟨w.heap.size + 2, 0, none⟩ = some (.int .i64 (horV p x n f k)) := hA.bs.cell rfl
    have f3 := hA.bs.frozen 0
    have hfi := HF.out (n - 1 - k) (by omega)
    have hh := horV_in (p := p) (by omega) x n f k
    have HN := Lib.hid (show ∀ W', W' = X.setCell ⟨w.heap.size + 2, 0, none⟩ (.int .i64 ((horV p x n f k * x + f (n - 1 - k)) % p)) → VlI w b o n c f x p (k + 1) W' ∧ W'.heap[w0.heap.size + 1]? = X.heap[w0.heap.size + 1]? ∧ W'.heap[w0.heap.size]? = X.heap[w0.heap.size]? from by
      rintro W' rfl
      have ht := (Turn.refl (· = w.heap.size + 2) X).setCell ⟨w.heap.size + 2, 0, none⟩ rfl (.int .i64 ((horV p x n f k * x + f (n - 1 - k)) % p))
      have hlX := (Array.getElem?_eq_some_iff.1 hl).1
      refine ⟨⟨hA.bx.turn ht (fun (e : w.heap.size = w.heap.size + 2) => by omega), hA.bp.turn ht (fun (e : w.heap.size + 1 = w.heap.size + 2) => by omega), by have := hA.bs.set 0 (.int .i64 ((horV p x n f k * x + f (n - 1 - k)) % p)); exact this, hA.bl.turn ht (fun (e : w.heap.size + 3 = w.heap.size + 2) => by omega), ht.os.trans hA.be.os, ht.tape.trans hA.be.tape, ht.output.trans hA.be.output, Nat.le_trans hA.be.size ht.size, fun q hq => (ht.block q (Nat.lt_of_lt_of_le hq hA.be.size) (fun (e : q = w.heap.size + 2) => by omega)).trans (hA.be.block q hq)⟩, ht.block _ hlX (fun (e : w0.heap.size + 1 = w.heap.size + 2) => by omega), ht.block _ (by omega) (fun (e : w0.heap.size = w.heap.size + 2) => by omega)⟩)
    clear hA hl hd
    simp only [show ∀ a b : Value, (#[a, b] : Array Value).getD 0 undef = a from fun _ _ => rfl, show ∀ a b : Value, (#[a, b] : Array Value).getD 1 undef = b from fun _ _ => rfl]
    generalize f (n - 1 - k) = ci at hfi HN
    generalize horV p x n f k = s at c3 hh HN
    have hmul := mul_in (a := s) (b := x) (p := p) (q := p) ⟨hh.1, by omega⟩ ⟨hx.1, by omega⟩ (by omega) (by omega)
    obtain ⟨t, ht⟩ : ∃ t, s * x = t := ⟨_, rfl⟩
    have hw1 : IntKind.i64.wrap (s * x) = t := by rw [ht]; exact IntWalk.i64_in _ ⟨by omega, by omega⟩
    rw [ht] at hmul HN
    have hw2 : IntKind.i64.wrap (t + ci) = t + ci := IntWalk.i64_in _ ⟨by omega, by omega⟩
    have hr : (t + ci).tmod p = (t + ci) % p := Int.tmod_eq_emod_of_nonneg (by omega)
    have hr1 : 0 ≤ (t + ci) % p := Int.emod_nonneg _ (by omega)
    have hr2 : (t + ci) % p < p := Int.emod_lt_of_pos _ (by omega)
    have hw3 : IntKind.i64.wrap ((t + ci) % p) = (t + ci) % p := IntWalk.i64_in _ ⟨by omega, by omega⟩
    have hpz : (p != 0) = true := by simp; omega
    have hpz0 : ¬ p = 0 := by omega
    clear ht
    gi_wp2
    obtain ⟨h1, h2, h3⟩ := HN.out _ rfl
    exact ⟨h1, trivial, h2, h3⟩
  case done =>
    rintro X hi hK
    have c3 : X.cell? ⟨w.heap.size + 2, 0, none⟩ = some (.int .i64 (horV p x n f n)) := hi.bs.cell rfl
    have HK := Lib.hid hK
    have HI := Lib.hid (hi.put (l := w0.heap.size) (by omega) (.deferred none))
    clear hK hi
    gi_wp2
    refine ⟨by simp, .inl ⟨_, _, rfl, run_takeDeferred HK.out, ?_⟩⟩
    exact ⟨_, results_tmp rfl _ _ _, rfl, HI.out.be⟩
end Go.Proofs.YtinoomcboinokaaGreat
