/- Worlds that differ in some blocks; rows of ints that may be written. -/
import Derived.Test.YtinoomcboinokaaMFound
import Derived.BigQuiet
namespace Go.Proofs.Ytinoomcboinokaa
open Go Go.RowKit Num

/-- Nothing but the blocks of S has changed; new ones may stand behind. -/
structure Turn (S : Nat → Prop) (w w' : World) : Prop where
  os : w'.os = w.os
  tape : w'.tape = w.tape
  output : w'.output = w.output
  size : w.heap.size ≤ w'.heap.size
  block : ∀ q, q < w.heap.size → ¬ S q → w'.heap[q]? = w.heap[q]?
theorem Turn.refl (S : Nat → Prop) (w : World) : Turn S w w := ⟨rfl, rfl, rfl, Nat.le_refl _, fun _ _ _ => rfl⟩
theorem Turn.trans {S : Nat → Prop} {A B C : World} (h : Turn S A B) (k : Turn S B C) : Turn S A C :=
  ⟨k.os.trans h.os, k.tape.trans h.tape, k.output.trans h.output, Nat.le_trans h.size k.size, fun q hq hn => (k.block q (Nat.lt_of_lt_of_le hq h.size) hn).trans (h.block q hq hn)⟩
theorem Turn.more {S S' : Nat → Prop} {A B : World} (h : Turn S A B) (hS : ∀ q, q < A.heap.size → S q → S' q) : Turn S' A B := ⟨h.os, h.tape, h.output, h.size, fun q hq hn => h.block q hq fun hs => hn (hS q hq hs)⟩
theorem Turn.below {S : Nat → Prop} {A B : World} (h : Below A.heap.size A B) : Turn S A B := ⟨h.os, h.tape, h.output, h.size, fun q hq _ => h.block q hq⟩
theorem Turn.to_below {S : Nat → Prop} {N : Nat} {A B : World} (h : Turn S A B) (hN : N ≤ A.heap.size) (hS : ∀ q, S q → N ≤ q) : Below N A B := ⟨h.os, h.tape, h.output, h.size, fun q hq => h.block q (by omega) fun hs => by have := hS q hs; omega⟩
theorem Turn.setCell {S : Nat → Prop} {A B : World} (h : Turn S A B) (a : Addr) (ha : S a.block) (u : Value) : Turn S A (B.setCell a u) :=
  ⟨h.os, h.tape, h.output, by rw [World.size_setCell]; exact h.size, fun q hq hn => (Below.heap_setCell B a u q (fun e => hn (by rw [e]; exact ha))).trans (h.block q hq hn)⟩
theorem Turn.alloc {S : Nat → Prop} {A B : World} (h : Turn S A B) (o : Obj) : Turn S A (B.alloc o) :=
  ⟨h.os, h.tape, h.output, by rw [World.size_alloc]; have := h.size; omega, fun q hq hn => (Below.heap_alloc B o q (Nat.lt_of_lt_of_le hq h.size)).trans (h.block q hq hn)⟩
theorem Turn.drew {S : Nat → Prop} {A B : World} (h : Turn S A B) : Turn S A B.drew := ⟨h.os, h.tape, h.output, h.size, h.block⟩
theorem Turn.drewN {S : Nat → Prop} {A B : World} (h : Turn S A B) : ∀ n, Turn S A (B.drewN n)
  | 0 => h
  | n + 1 => (h.drewN n).drew
theorem Turn.grown {S : Nat → Prop} {A B : World} {b : Nat} (h : A.grownBy B (some b)) (hb : S b) : Turn S A B := ⟨h.os, h.tape, h.output, h.size, fun q hq hn => h.block q hq (fun e => by cases e; exact hn hb)⟩
theorem Turn.keep {S : Nat → Prop} {A B : World} (h : Turn S A B) {q : Nat} {o : Obj} (hq : A.heap[q]? = some o) (hn : ¬ S q) : B.heap[q]? = some o := (h.block q (Array.getElem?_eq_some_iff.1 hq).1 hn).trans hq
theorem Turn.cell {S : Nat → Prop} {A B : World} (h : Turn S A B) {a : Addr} {u : Value} (hq : A.cell? a = some u) (hn : ¬ S a.block) : B.cell? a = some u := by
  have hlt : a.block < A.heap.size := by
    unfold World.cell? at hq
    by_cases hl : a.block < A.heap.size
    · exact hl
    · rw [Array.getElem?_eq_none (by omega)] at hq; cases hq
  rw [← hq]; unfold World.cell?; rw [h.block _ hlt hn]
theorem Row.turn {S : Nat → Prop} {A B : World} {g : Nat} {t : TypeId} {cs : Array Value} (h : Row A g t cs) (k : Turn S A B) (hg : ¬ S g) : Row B g t cs := k.keep h hg
theorem Vec.turn {S T : Nat → Prop} {A B : World} {v : Value} {n : Nat} {f : Nat → Int} (h : Vec A T v n f) (k : Turn S A B) (hS : ∀ q, T q → ¬ S q) : Vec B T v n f := by
  obtain ⟨A', c, rfl, hc, h⟩ := h
  refine ⟨A', c, rfl, hc, fun hn => ?_⟩
  obtain ⟨b, o, rfl, hb, hcc⟩ := h hn
  exact ⟨b, o, rfl, hb, fun j hj => k.cell (hcc j hj) (hS _ hb)⟩

/-- Block g is a list of at least n ints, of which the first n are f 0, f 1, .. -/
def RowI (w : World) (g n : Nat) (f : Nat → Int) : Prop := ∃ cs, Row w g 3 cs ∧ n ≤ cs.size ∧ ∀ j, j < n → cs[j]? = some (.int .i64 (f j))
theorem RowI.lt {w : World} {g n : Nat} {f : Nat → Int} (h : RowI w g n f) : g < w.heap.size := by obtain ⟨cs, h, _⟩ := h; exact h.lt
theorem RowI.cell {w : World} {g n : Nat} {f : Nat → Int} (h : RowI w g n f) {j : Nat} (hj : j < n) : w.cell? ⟨g, j, none⟩ = some (.int .i64 (f j)) := by obtain ⟨cs, h, _, h2⟩ := h; exact h.cell (h2 j hj)
theorem RowI.frozen {w : World} {g n : Nat} {f : Nat → Int} (h : RowI w g n f) (j : Nat) : w.frozen? ⟨g, j, none⟩ = false := by obtain ⟨cs, h, _, h2⟩ := h; exact h.frozen j
theorem RowI.turn {S : Nat → Prop} {A B : World} {g n : Nat} {f : Nat → Int} (h : RowI A g n f) (k : Turn S A B) (hg : ¬ S g) : RowI B g n f := by obtain ⟨cs, h, h1, h2⟩ := h; exact ⟨cs, h.turn k hg, h1, h2⟩
theorem RowI.congr {w : World} {g n : Nat} {f f' : Nat → Int} (h : RowI w g n f) (e : ∀ j, j < n → f j = f' j) : RowI w g n f' := by obtain ⟨cs, h, h1, h2⟩ := h; exact ⟨cs, h, h1, fun j hj => by rw [h2 j hj, e j hj]⟩
theorem RowI.set {w : World} {g n : Nat} {f : Nat → Int} (h : RowI w g n f) (i : Nat) (x : Int) : RowI (w.setCell ⟨g, i, none⟩ (.int .i64 x)) g n (fun j => if j = i then x else f j) := by
  obtain ⟨cs, h, h1, h2⟩ := h
  refine ⟨_, h.set i _, by simpa using h1, fun j hj => ?_⟩
  by_cases e : j = i
  · subst e
    rw [Array.getElem?_setIfInBounds_self]
    simp; omega
  · rw [Array.getElem?_setIfInBounds_ne (Ne.symm e), h2 j hj]
    dsimp only
    rw [if_neg e]
theorem RowI.vec {w : World} {g n c : Nat} {f : Nat → Int} (h : RowI w g n f) (hc : n ≤ c) (S : Nat → Prop) (hS : S g) : Vec w S (.slice (some ⟨g, 0, none⟩) n c) n f :=
  ⟨_, c, rfl, hc, fun _ => ⟨g, 0, rfl, hS, fun j hj => by rw [Nat.zero_add]; exact h.cell hj⟩⟩
theorem RowI.suf {w : World} {g n k c : Nat} {f : Nat → Int} (h : RowI w g n f) (hc : n ≤ c) (hk : k ≤ n) (S : Nat → Prop) (hS : S g) : Vec w S (.slice (some ⟨g, k, none⟩) (n - k) (c - k)) (n - k) (fun j => f (k + j)) :=
  ⟨_, c - k, rfl, by omega, fun _ => ⟨g, k, rfl, hS, fun j hj => h.cell (by omega)⟩⟩
end Go.Proofs.Ytinoomcboinokaa
