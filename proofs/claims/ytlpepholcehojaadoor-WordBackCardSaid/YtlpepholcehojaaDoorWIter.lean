/- What an iterator over a boxed slice asks of a loop's body: the box and the cells stay. -/
import Derived.Test.YtlpepholcehojaaDoorWReduce
import Derived.RangeFuncBox
import Derived.RangeFuncFrom
import Derived.RangeFuncLeaves
import Derived.Shelf.Abstract
import Derived.OwnWalkIn
import Derived.TacticsInMore
import Derived.LoopNIn
import Derived.LoopIn
namespace Go.Proofs.YtlpepholcehojaaDoor
open Go Go.RowKit

/-- The blocks of K0 that hold cells stay as they are. -/
def KpC (K0 : Nat → Prop) (A B : World) : Prop := A.heap.size ≤ B.heap.size ∧ ∀ (k : Nat) (o : Obj), A.heap[k]? = some o → K0 k → o.isCells = true → B.heap[k]? = some o
theorem KpC.refl (K0 : Nat → Prop) (A : World) : KpC K0 A A := ⟨Nat.le_refl _, fun _ _ h _ _ => h⟩
theorem KpC.trans {K0 : Nat → Prop} {A B C : World} (h : KpC K0 A B) (k : KpC K0 B C) : KpC K0 A C := ⟨Nat.le_trans h.1 k.1, fun i o hi h0 hc => k.2 i o (h.2 i o hi h0 hc) h0 hc⟩
theorem KpC.put (K0 : Nat → Prop) (n : Nat) (W : World) (l : Nat) (o o' : Obj) (_ : n ≤ l) (h : W.heap[l]? = some o) (ho : o.isCells = false) (_ : o.isWalk = false) : KpC K0 W (W.putObj l o') :=
  ⟨by simp, fun k u hk _ hc => by
    refine (World.putObj_heap_other ?_).trans hk
    rintro rfl
    rw [h] at hk; cases hk; rw [ho] at hc; cases hc⟩
theorem KpC.grown {K0 : Nat → Prop} {A B : World} {row : Option Nat} (hg : A.grownBy B row) (hr : ∀ r, row = some r → ¬ K0 r) : KpC K0 A B :=
  ⟨hg.size, fun k _ hk h0 _ => (hg.block k (Array.getElem?_eq_some_iff.1 hk).1 (fun e => hr k e.symm h0)).trans hk⟩
theorem cell_block {w : World} {p : Addr} {v : Value} (h : w.cell? p = some v) : ∃ o : Obj, w.heap[p.block]? = some o ∧ o.isCells = true := by
  unfold World.cell? at h
  cases e : w.heap[p.block]? with
  | none => simp [e] at h
  | some o =>
    refine ⟨o, rfl, ?_⟩
    cases o <;> simp_all [Obj.isCells]
theorem KpC.cell {K0 : Nat → Prop} {A B : World} (h : KpC K0 A B) {p : Addr} {v : Value} (hc : A.cell? p = some v) (h0 : K0 p.block) : B.cell? p = some v := by
  obtain ⟨o, ho, hk⟩ := cell_block hc
  exact (World.cell?_of_block ((h.2 _ o ho h0 hk).trans ho.symm)).trans hc
theorem KpC.boxed {K0 : Nat → Prop} {A B : World} (h : KpC K0 A B) {b : Nat} {t : TypeId} {v : Value} (hb : Boxed A b t v) (h0 : K0 b) : Boxed B b t v := h.2 b _ hb h0 rfl

theorem own_form {w : World} {base : Nat} {e : TypeId} {size k : Nat} {v : Value} {xs : List Value} (h : w.ownsRow base e size v (k + 1) xs) : ∃ g cap, v = .slice (some ⟨g, 0, none⟩) (k + 1) cap := by
  rcases h.2 with ⟨_, h'⟩ | ⟨g, cap, cur, rfl, _⟩
  · omega
  · exact ⟨g, cap, rfl⟩
/-- What has come when k rounds are over. -/
def upto {α : Type} (f : Nat → α) (k : Nat) : List α := (List.range k).map f
theorem upto_succ {α : Type} (f : Nat → α) (k : Nat) : upto f (k + 1) = upto f k ++ [f k] := by simp [upto, List.range_succ]
theorem upto_length {α : Type} (f : Nat → α) (k : Nat) : (upto f k).length = k := by simp [upto]

/-- slices.Backward. -/
theorem backward_in (F : Fence) (n : Nat) (hf : F.fn 35) (hro : F.round = none) (A : Option Addr) (k c : Nat) (w : World) :
    CallsIn F n Tryd.prog 35 #[.slice A k c] w fun e w' => e = .returned (.func (.func 47) #[] #[.pointer (some ⟨w.heap.size, 0, none⟩)]) ∧ w' = w.alloc (.cells #[.slice A k c] 24) := by
  refine callsIn_of_wp Tryd.func35 rfl hf ?_ hro
  simp only [Tryd.ntmps35, List.size_toArray, List.length_cons, List.length_nil, Nat.reduceAdd, Nat.reduceSub, Array.replicate_succ, Array.replicate_zero, List.push_toArray, List.append_toArray, List.nil_append, List.cons_append]
  gi_wp2
  go_ret
  exact ⟨rfl, rfl⟩

/-- The k-th pair that Backward hands over. -/
def backF (zs : List Int) (k : Nat) : Int × Int := ((zs.length : Int) - 1 - k, zs.getD (zs.length - 1 - k) 0)
abbrev encP (x : Int × Int) : Array Value := #[.int .i64 x.1, .int .i64 x.2]

set_option maxRecDepth 100000 in
set_option maxHeartbeats 1000000 in
theorem backward_seq (F : Fence) (n : Nat) (hf : F.fn 47) (hro : F.round = none) (hn : 1 ≤ n) (Bs : Nat) (A : Option Addr) (c : Nat) (zs : List Int) (K0 : Nat → Prop) (w : World) (hl : zs.length ≤ 17592186044400)
    (hBs : Bs < w.heap.size) (hKB : K0 Bs) (hbox : Boxed w Bs 24 (.slice A zs.length c))
    (hA : 0 < zs.length → ∃ b o, A = some ⟨b, o, none⟩ ∧ b < w.heap.size ∧ K0 b ∧ ∀ j, j < zs.length → w.cell? ⟨b, o + j, none⟩ = some (.int .i64 (zs.getD j 0))) :
    SeqStopsK F n Tryd.prog 47 #[.pointer (some ⟨Bs, 0, none⟩)] encP (KpC K0) (fun xs => xs = upto (backF zs) zs.length) (fun pre => ∃ k, k ≤ zs.length ∧ pre = upto (backF zs) k) zs.length w := by
  intro l J Jx W hW _ _ hY h0
  have hbW : Boxed W Bs 24 (.slice A zs.length c) := (hW.block Bs hBs).trans hbox
  have hcW : 0 < zs.length → ∃ b o, A = some ⟨b, o, none⟩ ∧ K0 b ∧ ∀ j, j < zs.length → W.cell? ⟨b, o + j, none⟩ = some (.int .i64 (zs.getD j 0)) := fun h => by
    obtain ⟨b, o, e, hb, hk, hc⟩ := hA h
    exact ⟨b, o, e, hk, fun j hj => (hW.cell (p := ⟨b, o + j, none⟩) hb).trans (hc j hj)⟩
  have HY := Lib.hid hY
  have HC := Lib.hid hcW
  have hbc := hbW.cell
  have HBW := Lib.hid hbW
  clear hY hcW hA hbW hbox
  refine callsIn_of_wp Tryd.func47 rfl hf ?_ hro
  simp only [Tryd.ntmps47, List.size_toArray, List.length_cons, List.length_nil, Nat.reduceAdd, Nat.reduceSub, Array.replicate_succ, Array.replicate_zero, List.push_toArray, List.append_toArray, List.nil_append, List.cons_append]
  gi_wp2
  gi_loopw [3] (fun i wr => ∃ k : Nat, k ≤ zs.length ∧ i = .int .i64 ((zs.length : Int) - 1 - k) ∧ J (upto (backF zs) k) wr ∧ KpC K0 W wr)
    (fun i _ => (intOf i + 1).toNat)
  case atStart => exact ⟨0, Nat.zero_le _, by go_num, h0, KpC.refl _ _⟩
  case round =>
    obtain ⟨k, hk, rfl, hJ, hKp⟩ := hrel
    by_cases hlt : k < zs.length
    · obtain ⟨b, o, rfl, hkb, hc⟩ := HC.out (by omega)
      have hcx := hKp.cell (hc (zs.length - 1 - k) (by omega)) hkb
      have hbx := (hKp.boxed HBW.out hKB).cell
      obtain ⟨fn, tmps, assign, body, hy, hR⟩ := HY.out _ (backF zs k) wr hJ (by rw [upto_length]; exact hlt)
      obtain ⟨q, hq⟩ : ∃ q : Nat, q = zs.length - 1 - k := ⟨_, rfl⟩
      have hin : (zs.length : Int) - 1 - (k : Int) = (q : Int) := by omega
      have hql : q < zs.length := by omega
      have HQ := Lib.hid hin
      have HR := Lib.hid hR
      have HK := Lib.hid hKp
      clear hR hKp hbc hJ h0 hc
      unfold backF at hy
      rw [hin, ← hq] at hy
      rw [← hq] at hcx
      rw [hin]
      generalize zs.getD q 0 = x at hcx hy
      clear hin hq
      gi_wp2
      refine HR.out.mono ?_
      rintro e W3 (⟨rfl, hJ3, hk3⟩ | ⟨rfl, hJx3⟩)
      · gi_wp2
        go_roundw
        case rel => exact ⟨k + 1, by omega, by have := HQ.out; go_num, by rw [upto_succ]; exact hJ3, HK.out.trans hk3⟩
        case measure => simp [intOf]
      · gi_wp2
        refine bodyPost_ret (results_none rfl _ _ _) rfl ?_
        exact ⟨⟨_, rfl⟩, .inr ⟨_, ⟨k + 1, by omega, (upto_succ _ _).symm⟩, hJx3⟩⟩
    · obtain rfl : k = zs.length := by omega
      have hge : ¬ (0 : Int) ≤ (zs.length : Int) - 1 - (zs.length : Int) := by omega
      have HJ := Lib.hid hJ
      clear hJ h0 hKp
      gi_wp2
      go_end0
      exact ⟨⟨_, rfl⟩, .inl HJ.out⟩
end Go.Proofs.YtlpepholcehojaaDoor
