/- LJ, LTurn, joined. -/
import Derived.Test.YtinoomcboinokaaGreatMFound
import Derived.BigQuiet

/- A law of the walk: a range over a function that is never left early, its invariant by the number of rounds. For every program. -/
namespace Go.Proofs.YtinoomcboinokaaGreat
open Go Go.RowKit

def postJ (B : Nat) (I : Nat → World → Prop) (Kp : World → World → Prop) (k : Nat) (W : World) : Exit → Act → World → Prop
  | .normal, _, W' => I k W' ∧ Kp W W' ∧ W'.heap[B + 1]? = W.heap[B + 1]? ∧ W'.heap[B]? = W.heap[B]?
  | _, _, _ => False

variable {F : Fence} {n : Nat} {P : Program}

theorem wpIn_rangeJ {g : Operand} {ps : Array Tmp} {assign body : Code} {Q : Exit → Act → World → Prop} {a : Act} {w : World}
    (hro : F.round = none) (h1 : 1 ≤ n) {gf : Nat} {lb : Array Value} (hg : a.eval g = .func (.func gf) #[] lb) (hFg : F.fn gf) (eg : ∀ args w, (callFunc gf args).run P w = .ok (.enter gf args) w)
    (m : Nat) (I : Nat → World → Prop) (X : Nat → Array Value → World → Prop) (Kp : World → World → Prop)
    (hI : ∀ k W o o', I k W → W.heap[w.heap.size + 1]? = some o → o.isCells = false → o.isWalk = false → I k (W.putObj (w.heap.size + 1) o'))
    (hX : ∀ k x W o o', X k x W → W.heap[w.heap.size + 1]? = some o → o.isCells = false → o.isWalk = false → X k x (W.putObj (w.heap.size + 1) o'))
    (hKt : ∀ A B C, Kp A B → Kp B C → Kp A C) (hKp : ∀ W o o', W.heap[w.heap.size + 1]? = some o → o.isCells = false → o.isWalk = false → Kp W (W.putObj (w.heap.size + 1) o'))
    (hps : ∀ k x W, X k x W → x.size = ps.size)
    (h0 : ∀ o1 o2, I 0 ((w.alloc o1).alloc o2))
    (hiter : ∀ (L : Obj) (W1 : World), L.isCells = false → L.isWalk = false → Below w.heap.size w W1 → W1.heap.size = w.heap.size + 2 → W1.heap[w.heap.size + 1]? = some L → W1.heap[w.heap.size]? = some (.deferred (some [])) → I 0 W1 →
      (∀ k x W, k < m → X k x W → W.heap[w.heap.size + 1]? = some L → W.heap[w.heap.size]? = some (.deferred (some [])) →
        YieldAt F (n - 1 - 1) P (w.heap.size + 1) x W fun e W' => e = .returned (.bool true) ∧ I (k + 1) W' ∧ Kp W W' ∧ W'.heap[w.heap.size + 1]? = some L ∧ W'.heap[w.heap.size]? = some (.deferred (some []))) →
      CallsIn F (n - 1) P gf (#[.func (.yield (w.heap.size + 1)) #[] #[]] ++ lb) W1 fun e W' => (∃ v, e = .returned v) ∧ I m W' ∧ W'.heap[w.heap.size + 1]? = some L ∧ W'.heap[w.heap.size]? = some (.deferred (some [])))
    (a₁ : Array Value → Act)
    (hassign : ∀ (l k : Nat) (x : Array Value) (W : World) (K : Act → World → Prop), X k x W → K (a₁ x) W →
      assign.wpIn (F.inRound l) (n - 1 - 1) P (Exit.then K (fun _ _ _ => False)) { tmps := (ps.zip x).foldl (fun t (p, v) => t.setIfInBounds p v) a.tmps, defers := [] } W)
    (hbody : ∀ (l k : Nat) (x : Array Value) (W : World) (L : Obj), k < m → X k x W → W.heap[w.heap.size + 1]? = some L → L.isCells = false → L.isWalk = false → W.heap[w.heap.size]? = some (.deferred (some [])) →
      body.wpIn (F.inRound l) (n - 1 - 1) P (postJ w.heap.size I Kp (k + 1) W) (a₁ x) W)
    (hdone : ∀ (W : World), I m W → W.heap[w.heap.size]? = some (.deferred (some [])) → Q .normal { a with defers := { target := .collected w.heap.size, args := #[] } :: a.defers } W) :
    (Code.rangeFunc g ps assign body).wpIn F n P Q a w := by
  refine wpIn_rangeFunc ?_
  intro fn hfn
  rw [hro]
  obtain ⟨rec, hrec⟩ : ∃ rec : LoopState → Option Code → Loop, rec = fun st pe => { state := st, pending := pe, fn, tmps := a.tmps, params := ps, assign, body, defers := w.heap.size } := ⟨_, rfl⟩
  obtain ⟨W1, hW1⟩ : ∃ W1, (w.alloc (.deferred (some []))).alloc (.loop (rec .ready none)) = W1 := ⟨_, rfl⟩
  have hL1 : W1.heap[w.heap.size + 1]? = some (.loop (rec .ready none)) := by
    rw [← hW1]; have := World.alloc_heap_new (w.alloc (.deferred (some []))) (.loop (rec .ready none)); rwa [World.size_alloc] at this
  have hK1 : W1.heap[w.heap.size]? = some (.deferred (some [])) := by
    rw [← hW1]; exact (Below.heap_alloc _ _ _ (by simp)).trans (World.alloc_heap_new w _)
  have hI1 : I 0 W1 := by rw [← hW1]; exact h0 _ _
  have hb1 : Below w.heap.size w W1 := by
    rw [← hW1]; exact (((Below.refl _ w).alloc (Nat.le_refl _) _).alloc (by simp) _)
  have hz1 : W1.heap.size = w.heap.size + 2 := by rw [← hW1]; simp
  refine ⟨w.heap.size + 1, [{ target := .collected w.heap.size, args := #[] }], W1, { target := .fn (.func gf) lb, args := #[.func (.yield (w.heap.size + 1)) #[] #[]] }, W1, gf,
    #[.func (.yield (w.heap.size + 1)) #[] #[]] ++ lb, W1, ?_, ?_, ?_, ?_, fun _ => h1, ?_⟩
  · rw [← hW1, hrec]; exact run_enterLoop_outer _ _ _ _ _
  · simp only [resolve, hg]
    simp [go_sem]
  · intro f' hf'; simp [Target.leads] at hf'; subst hf'; exact hFg
  · simp [invoke, go_sem, eg]
  · refine (hiter (.loop (rec .ready none)) W1 rfl rfl hb1 hz1 hL1 hK1 hI1 ?_).mono ?_
    · rintro k x W hk hx hl hd
      have hlt : w.heap.size + 1 < W.heap.size := (Array.getElem?_eq_some_iff.1 hl).1
      have hy := run_yield (P := P) (args := x) hl (by rw [hrec]; exact hps _ _ _ hx)
      rw [hrec] at hy
      refine ⟨fn, _, assign, body, hy, roundIn_of_wpIn hfn (hassign _ k x W _ hx ?_)⟩
      refine ⟨_, run_beginRound hl (by rw [hrec]), ?_⟩
      clear hy
      obtain ⟨W2, hW2⟩ : ∃ W2, W.putObj (w.heap.size + 1) (.loop { rec .ready none with state := .busy }) = W2 := ⟨_, rfl⟩
      have hl2 : W2.heap[w.heap.size + 1]? = some (.loop { rec .ready none with state := .busy }) := by rw [← hW2]; exact World.putObj_heap_same hlt
      have hd2 : W2.heap[w.heap.size]? = some (.deferred (some [])) := by rw [← hW2]; exact (World.putObj_heap_other (by omega)).trans hd
      have hx2 : X k x W2 := by rw [← hW2]; exact hX _ _ _ _ _ hx hl rfl rfl
      have hk2 : Kp W W2 := by rw [← hW2]; exact hKp _ _ _ hl rfl rfl
      rw [hW2]
      refine wpIn_mono (hbody _ k x W2 _ hk hx2 hl2 rfl rfl hd2) ?_
      rintro e a3 W3 hp
      cases e with
      | normal =>
        obtain ⟨hi3, hk3, e1, e2⟩ := hp
        have hl3 := e1.trans hl2
        have hd3 := e2.trans hd2
        have he := run_endRound (P := P) none hl3
        have hlt3 := (Array.getElem?_eq_some_iff.1 hl3).1
        refine ⟨_, _, he, rfl, hI _ _ _ _ hi3 hl3 rfl rfl, hKt _ _ _ (hKt _ _ _ hk2 hk3) (hKp _ _ _ hl3 rfl rfl), ?_, (World.putObj_heap_other (by omega)).trans hd3⟩
        rw [World.putObj_heap_same hlt3, hrec]; rfl
      | ret => exact hp.elim
      | exit id => exact hp.elim
      | goto t => exact hp.elim
      | panic ch => exact hp.elim
      | outgrown => exact hp.elim
    · rintro e W2 ⟨⟨v, rfl⟩, hi, hl, hk⟩
      refine ⟨none, _, by have := run_endLoop (P := P) hl (by rw [hrec]; simp); rw [hrec] at this; exact this, ?_⟩
      exact hdone _ (hI _ _ _ _ hi hl rfl rfl) ((World.putObj_heap_other (by omega)).trans hk)
end Go.Proofs.YtinoomcboinokaaGreat

/- Worlds that differ in some blocks; rows of ints that may be written. -/
namespace Go.Proofs.YtinoomcboinokaaGreat
open Go Go.RowKit Num

/-- Nothing but the blocks of S has changed; new ones may stand behind. -/
structure Turn (S : Nat → Prop) (w w' : World) : Prop where
  os : w'.os = w.os
  tape : w'.tape = w.tape
  output : w'.output = w.output
  size : w.heap.size ≤ w'.heap.size
  block : ∀ q, q < w.heap.size → ¬ S q → w'.heap[q]? = w.heap[q]?
theorem Turn.refl (S : Nat → Prop) (w : World) : Turn S w w := ⟨rfl, rfl, rfl, Nat.le_refl _, fun _ _ _ => rfl⟩
theorem Turn.trans {S : Nat → Prop} {A B C : World} (h : Turn S A B) (k : Turn S B C) : Turn S A C :=
  ⟨k.os.trans h.os, k.tape.trans h.tape, k.output.trans h.output, Nat.le_trans h.size k.size, fun q hq hn => (k.block q (Nat.lt_of_lt_of_le hq h.size) hn).trans (h.block q hq hn)⟩
theorem Turn.more {S S' : Nat → Prop} {A B : World} (h : Turn S A B) (hS : ∀ q, q < A.heap.size → S q → S' q) : Turn S' A B := ⟨h.os, h.tape, h.output, h.size, fun q hq hn => h.block q hq fun hs => hn (hS q hq hs)⟩
theorem Turn.below {S : Nat → Prop} {A B : World} (h : Below A.heap.size A B) : Turn S A B := ⟨h.os, h.tape, h.output, h.size, fun q hq _ => h.block q hq⟩
theorem Turn.to_below {S : Nat → Prop} {N : Nat} {A B : World} (h : Turn S A B) (hN : N ≤ A.heap.size) (hS : ∀ q, S q → N ≤ q) : Below N A B := ⟨h.os, h.tape, h.output, h.size, fun q hq => h.block q (by omega) fun hs => by have := hS q hs; omega⟩
theorem Turn.setCell {S : Nat → Prop} {A B : World} (h : Turn S A B) (a : Addr) (ha : S a.block) (u : Value) : Turn S A (B.setCell a u) :=
  ⟨h.os, h.tape, h.output, by rw [World.size_setCell]; exact h.size, fun q hq hn => (Below.heap_setCell B a u q (fun e => hn (by rw [e]; exact ha))).trans (h.block q hq hn)⟩
theorem Turn.alloc {S : Nat → Prop} {A B : World} (h : Turn S A B) (o : Obj) : Turn S A (B.alloc o) :=
  ⟨h.os, h.tape, h.output, by rw [World.size_alloc]; have := h.size; omega, fun q hq hn => (Below.heap_alloc B o q (Nat.lt_of_lt_of_le hq h.size)).trans (h.block q hq hn)⟩
theorem Turn.drew {S : Nat → Prop} {A B : World} (h : Turn S A B) : Turn S A B.drew := ⟨h.os, h.tape, h.output, h.size, h.block⟩
theorem Turn.drewN {S : Nat → Prop} {A B : World} (h : Turn S A B) : ∀ n, Turn S A (B.drewN n)
  | 0 => h
  | n + 1 => (h.drewN n).drew
theorem Turn.grown {S : Nat → Prop} {A B : World} {b : Nat} (h : A.grownBy B (some b)) (hb : S b) : Turn S A B := ⟨h.os, h.tape, h.output, h.size, fun q hq hn => h.block q hq (fun e => by cases e; exact hn hb)⟩
theorem Turn.keep {S : Nat → Prop} {A B : World} (h : Turn S A B) {q : Nat} {o : Obj} (hq : A.heap[q]? = some o) (hn : ¬ S q) : B.heap[q]? = some o := (h.block q (Array.getElem?_eq_some_iff.1 hq).1 hn).trans hq
theorem Turn.cell {S : Nat → Prop} {A B : World} (h : Turn S A B) {a : Addr} {u : Value} (hq : A.cell? a = some u) (hn : ¬ S a.block) : B.cell? a = some u := by
  have hlt : a.block < A.heap.size := by
    unfold World.cell? at hq
    by_cases hl : a.block < A.heap.size
    · exact hl
    · rw [Array.getElem?_eq_none (by omega)] at hq; cases hq
  rw [← hq]; unfold World.cell?; rw [h.block _ hlt hn]
theorem Row.turn {S : Nat → Prop} {A B : World} {g : Nat} {t : TypeId} {cs : Array Value} (h : Row A g t cs) (k : Turn S A B) (hg : ¬ S g) : Row B g t cs := k.keep h hg
theorem Vec.turn {S T : Nat → Prop} {A B : World} {v : Value} {n : Nat} {f : Nat → Int} (h : Vec A T v n f) (k : Turn S A B) (hS : ∀ q, T q → ¬ S q) : Vec B T v n f := by
  obtain ⟨A', c, rfl, hc, h⟩ := h
  refine ⟨A', c, rfl, hc, fun hn => ?_⟩
  obtain ⟨b, o, rfl, hb, hcc⟩ := h hn
  exact ⟨b, o, rfl, hb, fun j hj => k.cell (hcc j hj) (hS _ hb)⟩

/-- Block g is a list of at least n ints, of which the first n are f 0, f 1, .. -/
def RowI (w : World) (g n : Nat) (f : Nat → Int) : Prop := ∃ cs, Row w g 3 cs ∧ n ≤ cs.size ∧ ∀ j, j < n → cs[j]? = some (.int .i64 (f j))
theorem RowI.lt {w : World} {g n : Nat} {f : Nat → Int} (h : RowI w g n f) : g < w.heap.size := by obtain ⟨cs, h, _⟩ := h; exact h.lt
theorem RowI.cell {w : World} {g n : Nat} {f : Nat → Int} (h : RowI w g n f) {j : Nat} (hj : j < n) : w.cell? ⟨g, j, none⟩ = some (.int .i64 (f j)) := by obtain ⟨cs, h, _, h2⟩ := h; exact h.cell (h2 j hj)
theorem RowI.frozen {w : World} {g n : Nat} {f : Nat → Int} (h : RowI w g n f) (j : Nat) : w.frozen? ⟨g, j, none⟩ = false := by obtain ⟨cs, h, _, h2⟩ := h; exact h.frozen j
theorem RowI.turn {S : Nat → Prop} {A B : World} {g n : Nat} {f : Nat → Int} (h : RowI A g n f) (k : Turn S A B) (hg : ¬ S g) : RowI B g n f := by obtain ⟨cs, h, h1, h2⟩ := h; exact ⟨cs, h.turn k hg, h1, h2⟩
theorem RowI.congr {w : World} {g n : Nat} {f f' : Nat → Int} (h : RowI w g n f) (e : ∀ j, j < n → f j = f' j) : RowI w g n f' := by obtain ⟨cs, h, h1, h2⟩ := h; exact ⟨cs, h, h1, fun j hj => by rw [h2 j hj, e j hj]⟩
theorem RowI.set {w : World} {g n : Nat} {f : Nat → Int} (h : RowI w g n f) (i : Nat) (x : Int) : RowI (w.setCell ⟨g, i, none⟩ (.int .i64 x)) g n (fun j => if j = i then x else f j) := by
  obtain ⟨cs, h, h1, h2⟩ := h
  refine ⟨_, h.set i _, by simpa using h1, fun j hj => ?_⟩
  by_cases e : j = i
  · subst e
    rw [Array.getElem?_setIfInBounds_self]
    simp; omega
  · rw [Array.getElem?_setIfInBounds_ne (Ne.symm e), h2 j hj]
    dsimp only
    rw [if_neg e]
theorem RowI.vec {w : World} {g n c : Nat} {f : Nat → Int} (h : RowI w g n f) (hc : n ≤ c) (S : Nat → Prop) (hS : S g) : Vec w S (.slice (some ⟨g, 0, none⟩) n c) n f :=
  ⟨_, c, rfl, hc, fun _ => ⟨g, 0, rfl, hS, fun j hj => by rw [Nat.zero_add]; exact h.cell hj⟩⟩
theorem RowI.suf {w : World} {g n k c : Nat} {f : Nat → Int} (h : RowI w g n f) (hc : n ≤ c) (hk : k ≤ n) (S : Nat → Prop) (hS : S g) : Vec w S (.slice (some ⟨g, k, none⟩) (n - k) (c - k)) (n - k) (fun j => f (k + j)) :=
  ⟨_, c - k, rfl, by omega, fun _ => ⟨g, k, rfl, hS, fun j hj => h.cell (by omega)⟩⟩
end Go.Proofs.YtinoomcboinokaaGreat
