/- prime.Factors. -/
import Derived.Test.YtbcbkeeadbfjmaaPrFac
import Derived.Test.YtbcbkeeadbfjmaaPrRes
import Derived.Maps.AppendAt
namespace Go.Proofs.Ytbcbkeeadbfjmaa
open Go Go.RowKit Go.Shelf Num
attribute [local go_sem] Oper.semAt_some

/-- The cells of a list of pairs. -/
def pcells : List (Nat × Nat) → List Value
  | [] => []
  | x :: l => .int .i64 x.1 :: .int .i64 x.2 :: pcells l
theorem pcells_append (l m : List (Nat × Nat)) : pcells (l ++ m) = pcells l ++ pcells m := by
  induction l with
  | nil => rfl
  | cons x l ih => simp [pcells, ih]
theorem pcells_length (l : List (Nat × Nat)) : (pcells l).length = l.length * 2 := by
  induction l with
  | nil => rfl
  | cons x l ih => simp [pcells, ih]; omega
theorem pcells_get : ∀ (l : List (Nat × Nat)) (j : Nat) (x : Nat × Nat), l[j]? = some x → (pcells l)[2 * j]? = some (.int .i64 x.1) ∧ (pcells l)[2 * j + 1]? = some (.int .i64 x.2)
  | [], j, x, h => by simp at h
  | y :: l, 0, x, h => by simp at h; subst h; exact ⟨rfl, rfl⟩
  | y :: l, j + 1, x, h => by
    have h' : l[j]? = some x := by simpa using h
    obtain ⟨a, b⟩ := pcells_get l j x h'
    have e : 2 * (j + 1) = 2 * j + 1 + 1 := by omega
    rw [e]
    exact ⟨by simpa [pcells] using a, by simpa [pcells] using b⟩
/-- v is a list of pairs in blocks from lo on. -/
def PairsI (w : World) (lo : Nat) (v : Value) (l : List (Nat × Nat)) : Prop := w.ownsRow lo 32 2 v l.length (pcells l)
theorem info_pair : (Try.prog.info? 32).map (fun i => (i.zero, i.size, i.bytes)) = some (some (.agg #[.int .i64 0, .int .i64 0]), 2, 16) := by kernel_rfl
theorem cell_two_new (w : World) (x y : Value) (t : TypeId) {k : Nat} (hk : k = w.heap.size) : ∀ j u, [x, y][j]? = some u → (w.alloc (.cells #[x, y] t)).cell? ((⟨k, 0, none⟩ : Addr).add j) = some u := by
  subst hk
  intro j u hj
  have hadd : (⟨w.heap.size, 0, none⟩ : Addr).add j = ⟨w.heap.size, j, none⟩ := by unfold Addr.add; split <;> simp_all
  rw [hadd, cell_of_row _ _ j #[x, y] t (0, 0) (World.alloc_heap_new w _)]
  simpa using hj
theorem facs_len {N : Nat} (h1 : 1 ≤ N) (hN : N ≤ 1000000000) : (facs N).length ≤ 30 := by
  have h := (facs_fac h1).length
  apply Nat.le_of_not_lt
  intro hlt
  have : 2 ^ 31 ≤ 2 ^ (facs N).length := Nat.pow_le_pow_right (by decide) hlt
  have : (2 : Nat) ^ 31 = 2147483648 := by decide
  omega

/-- What Factors has returned. -/
def FacRet (N : Nat) (w : World) (e : Ending) (w' : World) : Prop := ∃ v, e = .returned (.tuple #[v, .int .i64 0]) ∧ PairsI w' w.heap.size v (facs N) ∧ Below w.heap.size w w'

set_option maxRecDepth 100000 in
set_option maxHeartbeats 400000 in
theorem Factors_bad (n : Int) (w : World) (h : n < 1 ∨ 1000000000 < n) : Calls Try.prog 13 #[.int .i64 n] w fun e w' => e = .returned (.tuple #[.slice none 0 0, .int .i64 2]) ∧ w' = w := by
  refine (callsIn_wide (n := 3)).1 ?_
  refine callsIn_of_wp_marks Try.func13 rfl trivial ?_ rfl
  simp only [Try.ntmps13, List.size_toArray, List.length_cons, List.length_nil, Nat.reduceAdd, Nat.reduceSub, Array.replicate_succ, Array.replicate_zero, List.push_toArray, List.append_toArray, List.nil_append, List.cons_append]
  by_cases h1 : n < 1
  · have hd : decide (n < 1) = true := decide_eq_true h1
    gi_wp2_with fail
    exact ⟨_, results_tmp2 rfl _ _ _, rfl, rfl⟩
  · have hd : decide (n < 1) = false := decide_eq_false h1
    have hd2 : decide (n > 1000000000) = true := decide_eq_true (by omega)
    gi_wp2_with fail
    exact ⟨_, results_tmp2 rfl _ _ _, rfl, rfl⟩

set_option maxRecDepth 100000 in
set_option maxHeartbeats 2000000 in
theorem Factors_any (N : Nat) (w : World) (h1 : 1 ≤ N) (hN : N ≤ 1000000000) : Calls Try.prog 13 #[.int .i64 N] w (FacRet N w) := by
  have hd : decide ((N : Int) < 1) = false := decide_eq_false (by omega)
  have hd2 : decide ((N : Int) > 1000000000) = false := decide_eq_false (by omega)
  have hlen := facs_len h1 hN
  refine (callsIn_wide (n := 5)).1 ?_
  refine callsIn_of_wp_marks Try.func13 rfl trivial ?_ rfl
  simp only [Try.ntmps13, List.size_toArray, List.length_cons, List.length_nil, Nat.reduceAdd, Nat.reduceSub, Array.replicate_succ, Array.replicate_zero, List.push_toArray, List.append_toArray, List.nil_append, List.cons_append]
  gi_wp2_with fail
  refine ⟨trivial, (factors_in Fence.wide 4 trivial rfl _ _).mono ?_⟩
  rintro e w2 ⟨rfl, rfl⟩
  gi_wp2_with fail
  obtain ⟨w0, hw0⟩ : ∃ w0, ((w.alloc (Obj.cells #[Value.slice none 0 0] 26)).alloc (Obj.cells #[Value.int IntKind.i64 ↑N] 3)) = w0 := ⟨_, rfl⟩
  have hz0 : w0.heap.size = w.heap.size + 1 + 1 := by rw [← hw0]; simp
  have hB0 : Below w.heap.size w w0 := by
    rw [← hw0]; exact ((Below.refl _ w).alloc (Nat.le_refl _) _).alloc (by simp) _
  have hb1 : Boxed w0 (w.heap.size + 1) 3 (.int .i64 N) := by
    rw [← hw0]
    have := Boxed.new (w.alloc (Obj.cells #[Value.slice none 0 0] 26)) 3 (.int .i64 N)
    rwa [World.size_alloc] at this
  have hb0 : Boxed w0 w.heap.size 26 (.slice none 0 0) := by
    rw [← hw0]; exact (Boxed.new w 26 (.slice none 0 0)).alloc _
  rw [hw0]
  clear hw0
  refine wpIn_rangeFunc_ownF rfl (by omega) (gf := 51) (lb := #[.pointer (some ⟨w.heap.size + 1, 0, none⟩)]) rfl trivial (enters_of Try.func51 (by kernel_rfl) rfl)
    (fac_stops (fun _ _ => True) 4 (w.heap.size + 1) N (by omega) h1 hN w0 hb1) (fun _ _ => trivial) (fun _ _ _ _ _ _ _ _ => trivial) (Below.refl _ _) (fun _ => rfl)
    (fun pre W => (∃ v, Boxed W w.heap.size 26 v ∧ W.ownsRow w.heap.size 32 2 v pre.length (pcells (pre.map Subtype.val)) ∧ True) ∧ Below w.heap.size w W) (fun _ _ _ => False)
    (OwnFrom.and (Own.from (holdsRow_own w.heap.size w.heap.size 26 32 2 (fun pre : List (FP N) => pre.length) (fun pre => pcells (pre.map Subtype.val)) (fun _ _ => True)) _) (ownFrom_below (Nat.le_refl _) (by omega)))
    (fun _ _ _ _ _ hs _ _ => hs) ⟨⟨_, hb0, World.ownsRow_nil _ _ _ _, trivial⟩, hB0⟩
    (fun y => { tmps := #[.int .i64 N, undef, .slice none 0 0, .int .i64 0, .pointer (some ⟨w.heap.size, 0, none⟩), .int .i64 y.1.1, .int .i64 y.1.2, .int .i64 N, .bool false, .bool false, .int .i64 N, .bool false, .bool false, .int .i64 N, .func (.func 51) #[] #[.pointer (some ⟨w.heap.size + 1, 0, none⟩)], .int .i64 y.1.1, .int .i64 y.1.2, undef, undef, undef, undef, undef, undef, undef], defers := [] }) ?assign ?body ?done ?stop
  case assign =>
    intro l y W K hK
    gi_wp2
    exact hK
  case stop =>
    rintro D c pre W _ _ h _
    exact h.elim
  case done =>
    rintro D xs W hD hS ⟨⟨v, hv, hr, _⟩, hB⟩ hK
    have hc := hv.cell
    have HR := Lib.hid hr
    have HK := Lib.hid hK
    have HBB := Lib.hid hB
    have HS := Lib.hid hS
    clear hr hK hB hS hv
    gi_wp2
    refine ⟨by simp, .inl ⟨_, _, rfl, run_takeDeferred HK.out, ?_⟩⟩
    refine ⟨_, results_tmp2 rfl _ _ _, v, rfl, ?_, HBB.out.trans (belowK_b (w := w) (Nat.le_refl _) W D _ _ (by omega) HK.out rfl rfl)⟩
    have h := ownsRow_putObj HR.out (.deferred none) HK.out rfl
    unfold PairsI
    rw [← HS.out]
    rw [List.length_map]
    exact h
  case body =>
    rintro l pre y W ⟨⟨v, hv, hrow, _⟩, hB⟩ hpl
    have hvc := hv.cell
    have hvf := hv.frozen
    obtain ⟨i0, hi, hz0', hz1, hz2⟩ := info_parts info_pair
    have HB := Lib.hid hB
    have hBs := hB.size
    obtain ⟨q, hq⟩ : ∃ q, y.1.1 = q := ⟨_, rfl⟩
    obtain ⟨k, hk⟩ : ∃ k, y.1.2 = k := ⟨_, rfl⟩
    have HQ := Lib.hid (And.intro hq hk)
    rw [hq, hk]
    have HV := Lib.hid hv
    clear hB hv hq hk
    gi_wp2_with (gi_at_builtin; refine wpListIn_append_own _ rfl _ _ 26 rfl w.heap.size 32 i0 (.agg #[.int .i64 0, .int .i64 0]) 2 16 Try.underlying26 hi hz0' hz1 hz2 rfl (by decide) _ _ _ rfl (hrow.alloc _) ⟨W.heap.size, 0, none⟩ 1 1 [.int .i64 q, .int .i64 k] rfl rfl (cell_two_new _ _ _ _ rfl) (by simp [Value.oneCell']) (by unfold maxLen; omega) (by omega) (by simp; omega) ?_; intro v' w1 hown' hgrow _; obtain ⟨g', cap', rfl⟩ := ownsRow_succ hown'; obtain ⟨hv1, hv2, hr2, hk2, hb2⟩ := HV.out.appended (by decide) hrow HB.out.size (Nat.le_refl _) hown' hgrow; have hc1 := hv1.cell; have hf1 := hv1.frozen)
    refine ⟨hk2, trivial, ⟨_, hv2, ?_, trivial⟩, HB.out.trans hb2⟩
    rw [List.map_append, pcells_append, List.length_append]
    have : pcells ([y].map Subtype.val) = [.int .i64 q, .int .i64 k] := by
      obtain ⟨rfl, rfl⟩ := HQ.out
      rfl
    rw [this]
    exact hr2
end Go.Proofs.Ytbcbkeeadbfjmaa
