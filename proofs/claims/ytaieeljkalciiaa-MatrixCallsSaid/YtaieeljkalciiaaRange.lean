/- A law of the walk: a range over a function whose iterator keeps memory of its own between two rounds. For every program; the loop's body does not leave the loop. -/
import Derived.RangeFuncNested
import Derived.RangeFuncBound
import Derived.RangeFuncCalls
import Derived.RangeFuncLeaves
import Derived.OwnWalkIn
import Derived.OrdersIn
namespace Go.Proofs.Ytaieeljkalciiaa
open Go Go.RowKit

/-- What the caller says between two rounds abides new blocks, and turns of the iterator's own blocks and of blocks that hold no cells. G: the iterator's own blocks. -/
def AbidesG {α : Type} (B0 : Nat) (I : List α → (Nat → Prop) → World → Prop) : Prop :=
  ∀ s G G' A B row, I s G A → A.grownBy B row → (∀ r, row = some r → G r ∨ (B0 ≤ r ∧ ∃ o : Obj, A.heap[r]? = some o ∧ o.isCells = false)) →
    (∀ k, G' k → G k ∨ (A.heap.size ≤ k ∧ k < B.heap.size)) → I s G' B

/-- What a round keeps: the blocks below n0, the iterator's own, and those that hold no cells. -/
structure KeepG (K0 : Nat → Prop) (G : Nat → Prop) (W W' : World) : Prop where
  size : W.heap.size ≤ W'.heap.size
  same : ∀ (k : Nat) (o : Obj), W.heap[k]? = some o → (K0 k ∨ G k ∨ o.isCells = false) → W'.heap[k]? = some o

theorem KeepG.refl (K0 : Nat → Prop) (G : Nat → Prop) (W : World) : KeepG K0 G W W := ⟨Nat.le_refl _, fun _ _ h _ => h⟩
theorem KeepG.trans {K0 : Nat → Prop} {G : Nat → Prop} {A B C : World} (h : KeepG K0 G A B) (k : KeepG K0 G B C) : KeepG K0 G A C :=
  ⟨Nat.le_trans h.size k.size, fun i o hi ho => k.same i o (h.same i o hi ho) ho⟩
theorem KeepG.grown {K0 : Nat → Prop} {G : Nat → Prop} {A B C : World} {row : Option Nat} (h : KeepG K0 G A B) (hg : B.grownBy C row)
    (hr : ∀ r, row = some r → ¬ K0 r ∧ ¬ G r ∧ ∀ o : Obj, B.heap[r]? = some o → o.isCells = true) : KeepG K0 G A C :=
  h.trans ⟨hg.size, fun k o hk ho => by
    refine (hg.block k (Array.getElem?_eq_some_iff.1 hk).1 ?_).trans hk
    intro e
    obtain ⟨h1, h2, h3⟩ := hr k e.symm
    rcases ho with ho | ho | ho
    · exact h1 ho
    · exact h2 ho
    · rw [h3 o hk] at ho; cases ho⟩
theorem KeepG.alloc {K0 : Nat → Prop} {G : Nat → Prop} {A B : World} (h : KeepG K0 G A B) (o : Obj) : KeepG K0 G A (B.alloc o) :=
  h.grown (World.grownBy_alloc B o none) (fun r e => by cases e)
theorem KeepG.drew {K0 : Nat → Prop} {G : Nat → Prop} {A B : World} (h : KeepG K0 G A B) : KeepG K0 G A B.drew := ⟨h.size, h.same⟩
/-- A store into the caller's own box. -/
theorem KeepG.box {K0 : Nat → Prop} {G : Nat → Prop} {A B : World} (h : KeepG K0 G A B) {b : Nat} {t : TypeId} {v : Value} (hb : Boxed B b t v) (h1 : ¬ K0 b) (h2 : ¬ G b) (u : Value) : KeepG K0 G A (B.setCell ⟨b, 0, none⟩ u) :=
  h.grown (grownBy_setCell' B b u) (fun r e => by
    cases e
    refine ⟨h1, h2, fun o ho => ?_⟩
    rw [show B.heap[b]? = _ from hb] at ho; cases ho; rfl)

/-- The iterator's contract: whatever the body does within KeepG, the iterator hands it x after x, each with H x, and what has come in the end is S. -/
def SeqG {α : Type} (F : Fence) (n : Nat) (P : Program) (g : Nat) (lb : Array Value) (encs : α → Array Value) (K0 : Nat → Prop) (H : List α → α → World → Prop) (S : List α → Prop) (w : World) : Prop :=
  ∀ (l : Nat) (J : List α → (Nat → Prop) → World → Prop) (W : World), Below w.heap.size w W → AbidesG W.heap.size J →
    (∀ pre x G W1, J pre G W1 → H pre x W1 → YieldAt F (n - 1) P l (encs x) W1 fun e W' =>
      e = .returned (.bool true) ∧ J (pre ++ [x]) G W' ∧ W1.heap.size ≤ W'.heap.size ∧ ∀ (k : Nat) (o : Obj), W1.heap[k]? = some o → o.isCells = true → (K0 k ∨ G k) → W'.heap[k]? = some o) →
    J [] (fun _ => False) W →
    CallsIn F n P g (#[.func (.yield l) #[] #[]] ++ lb) W fun e W' => (∃ v, e = .returned v) ∧ ∃ xs G, S xs ∧ J xs G W'

def postG {α : Type} (K0 : Nat → Prop) (G : Nat → Prop) (I : List α → (Nat → Prop) → World → Prop) (xs : List α) (W : World) : Exit → Act → World → Prop
  | .normal, _, W' => KeepG K0 G W W' ∧ I xs G W'
  | _, _, _ => False

variable {F : Fence} {n : Nat} {P : Program}

theorem wpIn_rangeG {α : Type} {g : Operand} {ps : Array Tmp} {assign body : Code} {Q : Exit → Act → World → Prop} {a : Act} {w : World}
    (hro : F.round = none) (h1 : 1 ≤ n) {gf : Nat} {lb : Array Value} (hg : a.eval g = .func (.func gf) #[] lb) (hFg : F.fn gf) (eg : ∀ args w, (callFunc gf args).run P w = .ok (.enter gf args) w)
    {encs : α → Array Value} {K0 : Nat → Prop} {H : List α → α → World → Prop} {S : List α → Prop} (hseq : SeqG F (n - 1) P gf lb encs K0 H S w) (hps : ∀ x, (encs x).size = ps.size)
    (hH : ∀ pre x W l o o', H pre x W → W.heap[l]? = some o → o.isCells = false → H pre x (W.putObj l o'))
    (I : List α → (Nat → Prop) → World → Prop) (hI : AbidesG w.heap.size I) (h0 : I [] (fun _ => False) w) (a₁ : α → Act)
    (hassign : ∀ (l : Nat) (x : α) (W : World) (K : Act → World → Prop), K (a₁ x) W →
      assign.wpIn (F.inRound l) (n - 1 - 1) P (Exit.then K (fun _ _ _ => False)) { tmps := (ps.zip (encs x)).foldl (fun t (p, v) => t.setIfInBounds p v) a.tmps, defers := [] } W)
    (hbody : ∀ (l : Nat) (pre : List α) (x : α) (G : Nat → Prop) (W : World), I pre G W → H pre x W → body.wpIn (F.inRound l) (n - 1 - 1) P (postG K0 G I (pre ++ [x]) W) (a₁ x) W)
    (hdone : ∀ (D : Nat) (xs : List α) (G : Nat → Prop) (W : World), w.heap.size ≤ D → S xs → I xs G W → W.heap[D]? = some (.deferred (some [])) → Q .normal { a with defers := { target := .collected D, args := #[] } :: a.defers } W) :
    (Code.rangeFunc g ps assign body).wpIn F n P Q a w := by
  refine wpIn_rangeFunc ?_
  intro fn hfn
  rw [hro]
  obtain ⟨rec, hrec⟩ : ∃ rec : LoopState → Option Code → Loop, rec = fun st pe => { state := st, pending := pe, fn, tmps := a.tmps, params := ps, assign, body, defers := w.heap.size } := ⟨_, rfl⟩
  obtain ⟨W1, hW1⟩ : ∃ W1, (w.alloc (.deferred (some []))).alloc (.loop (rec .ready none)) = W1 := ⟨_, rfl⟩
  have hL1 : W1.heap[w.heap.size + 1]? = some (.loop (rec .ready none)) := by
    rw [← hW1]; have := World.alloc_heap_new (w.alloc (.deferred (some []))) (.loop (rec .ready none)); rwa [World.size_alloc] at this
  have hK1 : W1.heap[w.heap.size]? = some (.deferred (some [])) := by
    rw [← hW1]; exact (Below.heap_alloc _ _ _ (by simp)).trans (World.alloc_heap_new w _)
  have hI1 : I [] (fun _ => False) W1 := by
    rw [← hW1]
    refine hI _ _ _ _ _ none (hI _ _ _ _ _ none h0 (World.grownBy_alloc _ _ none) (fun r e => by cases e) (fun k h => .inl h)) (World.grownBy_alloc _ _ none) (fun r e => by cases e) (fun k h => .inl h)
  have hb1 : Below w.heap.size w W1 := by
    rw [← hW1]; exact (((Below.refl _ w).alloc (Nat.le_refl _) _).alloc (by simp) _)
  have hz1 : W1.heap.size = w.heap.size + 2 := by rw [← hW1]; simp
  refine ⟨w.heap.size + 1, [{ target := .collected w.heap.size, args := #[] }], W1, { target := .fn (.func gf) lb, args := #[.func (.yield (w.heap.size + 1)) #[] #[]] }, W1, gf,
    #[.func (.yield (w.heap.size + 1)) #[] #[]] ++ lb, W1, ?_, ?_, ?_, ?_, fun _ => h1, ?_⟩
  · rw [← hW1, hrec]; exact run_enterLoop_outer _ _ _ _ _
  · simp only [resolve, hg]
    simp [go_sem]
  · intro f' hf'; simp [Target.leads] at hf'; subst hf'; exact hFg
  · simp [invoke, go_sem, eg]
  · refine (hseq (w.heap.size + 1)
      (fun pre G W => I pre G W ∧ (W.heap[w.heap.size + 1]? = some (.loop (rec .ready none)) ∧ ¬ G (w.heap.size + 1)) ∧ (W.heap[w.heap.size]? = some (.deferred (some [])) ∧ ¬ G w.heap.size))
      W1 hb1 ?_ ?_ ⟨hI1, ⟨hL1, id⟩, ⟨hK1, id⟩⟩).mono ?_
    · rintro s G G' A B row ⟨hi, ⟨hl, hl'⟩, ⟨hk, hk'⟩⟩ hg' hr hG
      have h1 := (Array.getElem?_eq_some_iff.1 hl).1
      have far : ∀ k, k < w.heap.size + 2 → ¬ G k → some k ≠ row := fun k hk hn e => by
        rcases hr k e.symm with h | ⟨h, _⟩
        · exact hn h
        · omega
      refine ⟨hI s G G' A B row hi hg' (fun r e => ?_) hG, ⟨(hg'.block _ h1 (far _ (by omega) hl')).trans hl, fun h => ?_⟩, ⟨(hg'.block _ (by omega) (far _ (by omega) hk')).trans hk, fun h => ?_⟩⟩
      · rcases hr r e with h | ⟨h, h'⟩
        · exact .inl h
        · exact .inr ⟨by omega, h'⟩
      · rcases hG _ h with h | h
        · exact hl' h
        · omega
      · rcases hG _ h with h | h
        · exact hk' h
        · omega
    · rintro pre x G W ⟨hi, ⟨hl, hl'⟩, ⟨hk, hk'⟩⟩ hx
      have hlt : w.heap.size + 1 < W.heap.size := (Array.getElem?_eq_some_iff.1 hl).1
      have hy := run_yield (P := P) (args := encs x) hl (by rw [hrec]; exact hps x)
      rw [hrec] at hy
      refine ⟨fn, _, assign, body, hy, roundIn_of_wpIn hfn (hassign _ x W _ ⟨_, run_beginRound hl (by rw [hrec]), ?_⟩)⟩
      clear hy
      obtain ⟨W2, hW2⟩ : ∃ W2, W.putObj (w.heap.size + 1) (.loop { rec .ready none with state := .busy }) = W2 := ⟨_, rfl⟩
      have hl2 : W2.heap[w.heap.size + 1]? = some (.loop { rec .ready none with state := .busy }) := by rw [← hW2]; exact World.putObj_heap_same hlt
      have hk2 : W2.heap[w.heap.size]? = some (.deferred (some [])) := by rw [← hW2]; exact (World.putObj_heap_other (by omega)).trans hk
      have hi2 : I pre G W2 := by
        rw [← hW2]
        exact hI _ _ _ _ _ _ hi (grownBy_putObj' W _ _) (fun r e => by cases e; exact .inr ⟨by omega, _, hl, rfl⟩) (fun k h => .inl h)
      have hx2 : H pre x W2 := by rw [← hW2]; exact hH pre x W _ _ _ hx hl rfl
      have hs2 : W2.heap.size = W.heap.size := by rw [← hW2]; simp
      have hc2 : ∀ (k : Nat) (o : Obj), W.heap[k]? = some o → o.isCells = true → W2.heap[k]? = some o := fun k o hk ho => by
        rw [← hW2]
        refine (World.putObj_heap_other ?_).trans hk
        rintro rfl
        rw [hl] at hk; cases hk; cases ho
      rw [hW2]
      refine wpIn_mono (hbody _ pre x G W2 hi2 hx2) ?_
      rintro e a3 W3 hp
      cases e with
      | normal =>
        obtain ⟨hk3, hi3⟩ := hp
        have hl3 := hk3.same _ _ hl2 (.inr (.inr rfl))
        have hd3 := hk3.same _ _ hk2 (.inr (.inr rfl))
        have he := run_endRound (P := P) none hl3
        have hlt3 := (Array.getElem?_eq_some_iff.1 hl3).1
        refine ⟨_, _, he, rfl, ⟨?_, ⟨?_, hl'⟩, ⟨(World.putObj_heap_other (by omega)).trans hd3, hk'⟩⟩, ?_, ?_⟩
        · exact hI _ _ _ _ _ _ hi3 (grownBy_putObj' W3 _ _) (fun r e => by cases e; exact .inr ⟨by omega, _, hl3, rfl⟩) (fun k h => .inl h)
        · rw [World.putObj_heap_same hlt3, hrec]; rfl
        · have := hk3.size; simp; omega
        · intro k o hk ho hG
          have h3 := hk3.same k o (hc2 k o hk ho) (by rcases hG with h | h; exact .inl h; exact .inr (.inl h))
          refine (World.putObj_heap_other ?_).trans h3
          rintro rfl
          rw [hl3] at h3; cases h3; cases ho
      | ret => exact hp.elim
      | exit id => exact hp.elim
      | goto t => exact hp.elim
      | panic ch => exact hp.elim
      | outgrown => exact hp.elim
    · rintro e W2 ⟨⟨v, rfl⟩, xs, G, hS, hi, ⟨hl, hl'⟩, ⟨hk, hk'⟩⟩
      have hlt := (Array.getElem?_eq_some_iff.1 hl).1
      refine ⟨none, _, by have := run_endLoop (P := P) hl (by rw [hrec]; simp); rw [hrec] at this; exact this, hdone _ xs G _ (Nat.le_refl _) hS ?_ ((World.putObj_heap_other (by omega)).trans hk)⟩
      exact hI _ _ _ _ _ _ hi (grownBy_putObj' W2 _ _) (fun r e => by cases e; exact .inr ⟨by omega, _, hl, rfl⟩) (fun k h => .inl h)


def noDefer (ops : Array Oper) : Bool := ops.toList.all fun o => match o.op with | .defer _ => false | _ => true
theorem noDefer_spec {ops : Array Oper} (h : noDefer ops = true) (i : Nat) (o : Oper) (ho : ops[i]? = some o) : ∀ c, o.op ≠ Op.defer c := by
  intro c e
  have hm : o ∈ ops.toList := by rw [Array.mem_toList_iff]; exact Array.mem_of_getElem? ho
  have := List.all_eq_true.1 h o hm
  rw [e] at this
  cases this
/-- In a round a region without a defer statement goes as in an activation. -/
theorem wpAnyIn_round {md : Region.Mode} {ops : Array Oper} {Q : Exit → Act → World → Prop} (l : Nat) (hnd : noDefer ops = true) :
    ∀ (fuel : Nat) (listed : Array Bool) (a : Act) (w : World), wpAnyIn F n P md ops Q fuel listed a w → wpAnyIn (F.inRound l) n P md ops Q fuel listed a w := by
  intro fuel
  induction fuel with
  | zero => intro listed a w h; exact h
  | succ fuel ih =>
    intro listed a w h
    refine ⟨h.1, fun i hi => ?_⟩
    have h1 := wpOpIn_mono (fun a w => ih (listed.setIfInBounds i true) a w) (h.2 i hi)
    unfold wpOpIn at h1 ⊢
    cases ho : ops[i]? with
    | none => rw [ho] at h1; exact h1
    | some o =>
      rw [ho] at h1
      simp only at h1 ⊢
      split
      · rename_i hw
        rw [if_pos hw] at h1
        unfold Oper.wpIn at h1 ⊢
        refine ⟨h1.1, ?_⟩
        have h2 := h1.2
        rw [Oper.semAt_plain F _ _ (noDefer_spec hnd i o ho)] at h2
        rw [Oper.semAt_plain (F.inRound l) _ _ (noDefer_spec hnd i o ho)]
        exact h2
      · rename_i hw
        rw [if_neg hw] at h1
        exact h1
theorem region_round {id : Nat} {ops : Array Oper} {Q : Exit → Act → World → Prop} {a : Act} {w : World} (l : Nat) (hnd : noDefer ops = true) (hm : P.follows .mixedOrders = true)
    (h : wpAnyIn F n P .any ops Q ops.size (Array.replicate ops.size false) a w.drew) : (Code.region id ops true).wpIn (F.inRound l) n P Q a w :=
  wpIn_region_any hm (wpAnyIn_round l hnd _ _ _ _ h)
end Go.Proofs.Ytaieeljkalciiaa
