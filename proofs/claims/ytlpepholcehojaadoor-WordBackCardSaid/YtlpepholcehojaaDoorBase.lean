/- Words for slices and small blocks in memory, used by the walks of this seat. -/
import Derived.Below
import Derived.OwnWalk
import Derived.WalkKit
import Derived.Outline
import Derived.Lib.Hide
import Derived.Laws.OwnMore
import Derived.Laws.NewBlocks
import Derived.RangeFuncBox
import Derived.Test.YtlpepholcehojaaDoorProg
namespace Go.Proofs.YtlpepholcehojaaDoor
open Go Go.RowKit

/-- The slice value v reads, in w, as the integers zs; its cells lie below block B. -/
def Ints (w : World) (B : Nat) (v : Value) (zs : List Int) : Prop :=
  ∃ A c, v = .slice A zs.length c ∧ (0 < zs.length → ∃ b o, A = some ⟨b, o, none⟩ ∧ b < B ∧ ∀ j, j < zs.length → w.cell? ⟨b, o + j, none⟩ = some (.int .i64 (zs.getD j 0)))

theorem Ints.keep {w w' : World} {B : Nat} {v : Value} {zs : List Int} (h : Ints w B v zs) (hk : ∀ p : Addr, p.block < B → w'.cell? p = w.cell? p) : Ints w' B v zs := by
  obtain ⟨A, c, rfl, h⟩ := h
  refine ⟨A, c, rfl, fun hn => ?_⟩
  obtain ⟨b, o, rfl, hb, hc⟩ := h hn
  exact ⟨b, o, rfl, hb, fun j hj => (hk _ hb).trans (hc j hj)⟩
theorem Ints.more {w : World} {B B' : Nat} {v : Value} {zs : List Int} (h : Ints w B v zs) (hB : B ≤ B') : Ints w B' v zs := by
  obtain ⟨A, c, rfl, h⟩ := h
  refine ⟨A, c, rfl, fun hn => ?_⟩
  obtain ⟨b, o, rfl, hb, hc⟩ := h hn
  exact ⟨b, o, rfl, by omega, hc⟩
theorem Ints.below {w w' : World} {B : Nat} {v : Value} {zs : List Int} (h : Ints w B v zs) (hb : Below B w w') : Ints w' B v zs := h.keep fun _ hp => hb.cell hp
theorem Ints.alloc {w : World} {B : Nat} {v : Value} {zs : List Int} (h : Ints w B v zs) (hB : B ≤ w.heap.size) (o : Obj) : Ints (w.alloc o) B v zs := h.keep fun p hp => World.cell?_alloc_lt w o p (Nat.lt_of_lt_of_le hp hB)
theorem Ints.at_ {w : World} {B : Nat} {v : Value} {zs : List Int} (h : Ints w B v zs) (hn : 0 < zs.length) :
    ∃ b o c, v = .slice (some ⟨b, o, none⟩) zs.length c ∧ b < B ∧ ∀ j, j < zs.length → w.cell? ⟨b, o + j, none⟩ = some (.int .i64 (zs.getD j 0)) := by
  obtain ⟨A, c, rfl, h⟩ := h
  obtain ⟨b, o, rfl, hb, hc⟩ := h hn
  exact ⟨b, o, c, rfl, hb, hc⟩

/-- Block g holds just the cells cs of type t, none frozen. -/
def Row (w : World) (g : Nat) (t : TypeId) (cs : Array Value) : Prop := w.heap[g]? = some (.cells cs t (0, 0))
theorem Row.lt {w : World} {g : Nat} {t : TypeId} {cs : Array Value} (h : Row w g t cs) : g < w.heap.size := (Array.getElem?_eq_some_iff.1 h).1
theorem Row.new (w : World) (t : TypeId) (cs : Array Value) : Row (w.alloc (.cells cs t)) w.heap.size t cs := World.alloc_heap_new w _
theorem Row.cell {w : World} {g : Nat} {t : TypeId} {cs : Array Value} (h : Row w g t cs) {i : Nat} {u : Value} (hi : cs[i]? = some u) : w.cell? ⟨g, i, none⟩ = some u := by
  simp [World.cell?, show w.heap[g]? = _ from h, hi]
theorem Row.frozen {w : World} {g : Nat} {t : TypeId} {cs : Array Value} (h : Row w g t cs) (i : Nat) : w.frozen? ⟨g, i, none⟩ = false := by
  simp [World.frozen?, show w.heap[g]? = _ from h]
theorem Row.kept {w w' : World} {g : Nat} {t : TypeId} {cs : Array Value} {row : Option Nat} (h : Row w g t cs) (hg : w.grownBy w' row) (hne : some g ≠ row) : Row w' g t cs := (hg.block g h.lt hne).trans h
theorem Row.alloc {w : World} {g : Nat} {t : TypeId} {cs : Array Value} (h : Row w g t cs) (o : Obj) : Row (w.alloc o) g t cs := h.kept (World.grownBy_alloc w o none) (by simp)
theorem Row.set {w : World} {g : Nat} {t : TypeId} {cs : Array Value} (h : Row w g t cs) (i : Nat) (u : Value) : Row (w.setCell ⟨g, i, none⟩ u) g t (cs.setIfInBounds i u) := by
  unfold Row at h ⊢
  simp [World.setCell, Array.getElem?_modify, h]
theorem Row.far {w : World} {g : Nat} {t : TypeId} {cs : Array Value} (h : Row w g t cs) {p : Addr} (hp : g ≠ p.block) (u : Value) : Row (w.setCell p u) g t cs := (Below.heap_setCell w p u g hp).trans h
theorem Row.below {w w' : World} {B g : Nat} {t : TypeId} {cs : Array Value} (h : Row w g t cs) (hb : Below B w w') (hg : g < B) : Row w' g t cs := (hb.block g hg).trans h

theorem ret_int {k : IntKind} {a b : Int} (h : a = b) : Ending.returned (.int k a) = .returned (.int k b) := by rw [h]

/-- What is a permutation's list: each image is in range and occurs once. -/
def Fine (zs : List Int) : Prop := ∀ i, i < zs.length → 0 ≤ zs.getD i 0 ∧ zs.getD i 0 < zs.length ∧ ∀ j, j < i → zs.getD j 0 ≠ zs.getD i 0
instance (zs : List Int) : Decidable (Fine zs) := by unfold Fine; infer_instance
/-- The error of a list, as the document says it. -/
def chk (zs : List Int) : Int := if zs.length < 1 ∨ 64 < zs.length then 2 else if Fine zs then 0 else 3
/-- Its first k images are in range and differ. -/
def FineTo (zs : List Int) (k : Nat) : Prop := ∀ i, i < k → 0 ≤ zs.getD i 0 ∧ zs.getD i 0 < zs.length ∧ ∀ j, j < i → zs.getD j 0 ≠ zs.getD i 0
theorem FineTo.zero (zs : List Int) : FineTo zs 0 := fun i h => absurd h (by omega)
theorem FineTo.fine {zs : List Int} (h : FineTo zs zs.length) : Fine zs := h
theorem FineTo.succ {zs : List Int} {k : Nat} (h : FineTo zs k) (h0 : 0 ≤ zs.getD k 0) (h1 : zs.getD k 0 < zs.length) (h2 : ∀ j, j < k → zs.getD j 0 ≠ zs.getD k 0) : FineTo zs (k + 1) := fun i hi => by
  by_cases e : i = k
  · subst e; exact ⟨h0, h1, h2⟩
  · exact h i (by omega)
/-- The marks behind k images: the i-th says whether i is among them. -/
def marks (zs : List Int) (k : Nat) : Array Value := Array.ofFn (n := 64) fun i => Value.bool (decide (∃ j, j < k ∧ zs.getD j 0 = (i.val : Int)))
theorem marks_get (zs : List Int) (k i : Nat) (hi : i < 64) : (marks zs k)[i]? = some (.bool (decide (∃ j, j < k ∧ zs.getD j 0 = (i : Int)))) := by
  simp [marks, hi]
theorem marks_zero (zs : List Int) : marks zs 0 = Array.replicate 64 (.bool false) := by
  apply Array.ext
  · simp [marks]
  · intro i h1 h2; simp [marks]
theorem marks_succ (zs : List Int) (k i : Nat) (h : zs.getD k 0 = (i : Int)) : (marks zs k).setIfInBounds i (.bool true) = marks zs (k + 1) := by
  apply Array.ext
  · simp [marks]
  · intro j h1 h2
    have hj : j < 64 := by simpa [marks] using h2
    rw [Array.getElem_setIfInBounds (by simpa [marks] using hj)]
    by_cases e : i = j
    · subst e
      simp only [if_true, marks, Array.getElem_ofFn]
      congr 1
      exact (decide_eq_true ⟨k, by omega, h⟩).symm
    · simp only [if_neg e, marks, Array.getElem_ofFn]
      congr 1
      rw [decide_eq_decide]
      constructor
      · rintro ⟨m, hm, he⟩; exact ⟨m, by omega, he⟩
      · rintro ⟨m, hm, he⟩
        refine ⟨m, ?_, he⟩
        by_cases e' : m = k
        · subst e'; rw [h] at he; omega
        · omega

end Go.Proofs.YtlpepholcehojaaDoor
