/- A law of the walk: a range over a function whose iterator keeps memory of its own between two rounds, and goes on till the loop is left. For every program. -/
import Derived.Test.YtaieeljkalciiaaRange
namespace Go.Proofs.Ytaieeljkalciiaa
open Go Go.RowKit

/-- The iterator's contract: it hands over x after x, each with H, till the body leaves the loop; the body's invariant J bounds how many come. -/
def SeqX {α : Type} (F : Fence) (n : Nat) (P : Program) (g : Nat) (lb : Array Value) (encs : α → Array Value) (K0 : Nat → Prop) (H : List α → α → World → Prop) (N : Nat) (w : World) : Prop :=
  ∀ (l : Nat) (J : List α → (Nat → Prop) → World → Prop) (Jx : World → Prop) (W : World), Below w.heap.size w W → AbidesG W.heap.size J → (∀ pre G W1, J pre G W1 → pre.length < N) →
    (∀ pre x G W1, J pre G W1 → H pre x W1 → YieldAt F (n - 1) P l (encs x) W1 fun e W' =>
      (e = .returned (.bool true) ∧ J (pre ++ [x]) G W' ∧ W1.heap.size ≤ W'.heap.size ∧ ∀ (k : Nat) (o : Obj), W1.heap[k]? = some o → o.isCells = true → (K0 k ∨ G k) → W'.heap[k]? = some o) ∨
      (e = .returned (.bool false) ∧ Jx W')) →
    J [] (fun _ => False) W →
    CallsIn F n P g (#[.func (.yield l) #[] #[]] ++ lb) W fun e W' => (∃ v, e = .returned v) ∧ Jx W'

def postX {α : Type} (K0 : Nat → Prop) (G : Nat → Prop) (I : List α → (Nat → Prop) → World → Prop) (Ix : Code → World → Prop) (xs : List α) (W : World) : Exit → Act → World → Prop
  | .normal, _, W' => KeepG K0 G W W' ∧ I xs G W'
  | .exit id, _, W' => KeepG (fun _ => False) (fun _ => False) W W' ∧ Ix (.exit id) W'
  | _, _, _ => False

variable {F : Fence} {n : Nat} {P : Program}

theorem wpIn_rangeX {α : Type} {g : Operand} {ps : Array Tmp} {assign body : Code} {Q : Exit → Act → World → Prop} {a : Act} {w : World}
    (hro : F.round = none) (h1 : 1 ≤ n) {gf : Nat} {lb : Array Value} (hg : a.eval g = .func (.func gf) #[] lb) (hFg : F.fn gf) (eg : ∀ args w, (callFunc gf args).run P w = .ok (.enter gf args) w)
    {encs : α → Array Value} {K0 : Nat → Prop} {H : List α → α → World → Prop} {N : Nat} (hseq : SeqX F (n - 1) P gf lb encs K0 H N w) (hps : ∀ x, (encs x).size = ps.size)
    (hH : ∀ pre x W l o o', H pre x W → W.heap[l]? = some o → o.isCells = false → H pre x (W.putObj l o'))
    (I : List α → (Nat → Prop) → World → Prop) (hI : AbidesG w.heap.size I) (hN : ∀ pre G W, I pre G W → pre.length < N)
    (Ix : Code → World → Prop) (hIx : ∀ c W l o o', Ix c W → w.heap.size ≤ l → W.heap[l]? = some o → o.isCells = false → Ix c (W.putObj l o')) (h0 : I [] (fun _ => False) w) (ob : α → Obj) (_hob : ∀ x, (ob x).isCells = true) (hHa : ∀ pre x W o, H pre x W → H pre x (W.alloc o)) (hGI : ∀ pre G W, I pre G W → ∀ k, G k → k < W.heap.size) (a₁ : α → Nat → Act)
    (hassign : ∀ (l : Nat) (x : α) (W : World) (K : Act → World → Prop), (∀ W', W' = W.alloc (ob x) → K (a₁ x W.heap.size) W') →
      assign.wpIn (F.inRound l) (n - 1 - 1) P (Exit.then K (fun _ _ _ => False)) { tmps := (ps.zip (encs x)).foldl (fun t (p, v) => t.setIfInBounds p v) a.tmps, defers := [] } W)
    (hbody : ∀ (l : Nat) (pre : List α) (x : α) (G : Nat → Prop) (W : World) (B : Nat), I pre G W → H pre x W → W.heap[B]? = some (ob x) → w.heap.size ≤ B → ¬ G B → body.wpIn (F.inRound l) (n - 1 - 1) P (postX K0 G I Ix (pre ++ [x]) W) (a₁ x B) W)
    (hstop : ∀ (D : Nat) (c : Code) (W : World), w.heap.size ≤ D → Ix c W → W.heap[D]? = some (.deferred (some [])) → c.wpIn F n P Q { a with defers := { target := .collected D, args := #[] } :: a.defers } W) :
    (Code.rangeFunc g ps assign body).wpIn F n P Q a w := by
  refine wpIn_rangeFunc ?_
  intro fn hfn
  rw [hro]
  obtain ⟨rec, hrec⟩ : ∃ rec : LoopState → Option Code → Loop, rec = fun st pe => { state := st, pending := pe, fn, tmps := a.tmps, params := ps, assign, body, defers := w.heap.size } := ⟨_, rfl⟩
  obtain ⟨W1, hW1⟩ : ∃ W1, (w.alloc (.deferred (some []))).alloc (.loop (rec .ready none)) = W1 := ⟨_, rfl⟩
  have hL1 : W1.heap[w.heap.size + 1]? = some (.loop (rec .ready none)) := by
    rw [← hW1]; have := World.alloc_heap_new (w.alloc (.deferred (some []))) (.loop (rec .ready none)); rwa [World.size_alloc] at this
  have hK1 : W1.heap[w.heap.size]? = some (.deferred (some [])) := by
    rw [← hW1]; exact (Below.heap_alloc _ _ _ (by simp)).trans (World.alloc_heap_new w _)
  have hI1 : I [] (fun _ => False) W1 := by
    rw [← hW1]
    refine hI _ _ _ _ _ none (hI _ _ _ _ _ none h0 (World.grownBy_alloc _ _ none) (fun r e => by cases e) (fun k h => .inl h)) (World.grownBy_alloc _ _ none) (fun r e => by cases e) (fun k h => .inl h)
  have hb1 : Below w.heap.size w W1 := by
    rw [← hW1]; exact (((Below.refl _ w).alloc (Nat.le_refl _) _).alloc (by simp) _)
  have hz1 : W1.heap.size = w.heap.size + 2 := by rw [← hW1]; simp
  refine ⟨w.heap.size + 1, [{ target := .collected w.heap.size, args := #[] }], W1, { target := .fn (.func gf) lb, args := #[.func (.yield (w.heap.size + 1)) #[] #[]] }, W1, gf,
    #[.func (.yield (w.heap.size + 1)) #[] #[]] ++ lb, W1, ?_, ?_, ?_, ?_, fun _ => h1, ?_⟩
  · rw [← hW1, hrec]; exact run_enterLoop_outer _ _ _ _ _
  · simp only [resolve, hg]
    simp [go_sem]
  · intro f' hf'; simp [Target.leads] at hf'; subst hf'; exact hFg
  · simp [invoke, go_sem, eg]
  · refine (hseq (w.heap.size + 1)
      (fun pre G W => I pre G W ∧ (W.heap[w.heap.size + 1]? = some (.loop (rec .ready none)) ∧ ¬ G (w.heap.size + 1)) ∧ (W.heap[w.heap.size]? = some (.deferred (some [])) ∧ ¬ G w.heap.size))
      (fun W => ∃ c, Ix c W ∧ W.heap[w.heap.size + 1]? = some (.loop (rec .done (some c))) ∧ W.heap[w.heap.size]? = some (.deferred (some [])))
      W1 hb1 ?_ (fun pre G W h => hN pre G W h.1) ?_ ⟨hI1, ⟨hL1, id⟩, ⟨hK1, id⟩⟩).mono ?_
    · rintro s G G' A B row ⟨hi, ⟨hl, hl'⟩, ⟨hk, hk'⟩⟩ hg' hr hG
      have h1 := (Array.getElem?_eq_some_iff.1 hl).1
      have far : ∀ k, k < w.heap.size + 2 → ¬ G k → some k ≠ row := fun k hk hn e => by
        rcases hr k e.symm with h | ⟨h, _⟩
        · exact hn h
        · omega
      refine ⟨hI s G G' A B row hi hg' (fun r e => ?_) hG, ⟨(hg'.block _ h1 (far _ (by omega) hl')).trans hl, fun h => ?_⟩, ⟨(hg'.block _ (by omega) (far _ (by omega) hk')).trans hk, fun h => ?_⟩⟩
      · rcases hr r e with h | ⟨h, h'⟩
        · exact .inl h
        · exact .inr ⟨by omega, h'⟩
      · rcases hG _ h with h | h
        · exact hl' h
        · omega
      · rcases hG _ h with h | h
        · exact hk' h
        · omega
    · rintro pre x G W ⟨hi, ⟨hl, hl'⟩, ⟨hk, hk'⟩⟩ hx
      have hlt : w.heap.size + 1 < W.heap.size := (Array.getElem?_eq_some_iff.1 hl).1
      have hy := run_yield (P := P) (args := encs x) hl (by rw [hrec]; exact hps x)
      rw [hrec] at hy
      refine ⟨fn, _, assign, body, hy, roundIn_of_wpIn hfn (hassign _ x W _ fun W0 hW0 => ?_)⟩
      have hl0 : W0.heap[w.heap.size + 1]? = some (.loop (rec .ready none)) := by rw [hW0]; exact (Below.heap_alloc _ _ _ (by omega)).trans hl
      have hk0 : W0.heap[w.heap.size]? = some (.deferred (some [])) := by rw [hW0]; exact (Below.heap_alloc _ _ _ (by omega)).trans hk
      have hB0 : W0.heap[W.heap.size]? = some (ob x) := by rw [hW0]; exact World.alloc_heap_new W _
      have hz0 : W0.heap.size = W.heap.size + 1 := by rw [hW0]; simp
      have hi0 : I pre G W0 := by rw [hW0]; exact hI _ _ _ _ _ none hi (World.grownBy_alloc _ _ none) (fun r e => by cases e) (fun k h => .inl h)
      have hx0 : H pre x W0 := by rw [hW0]; exact hHa _ _ _ _ hx
      have hc0 : ∀ (k : Nat) (o : Obj), W.heap[k]? = some o → W0.heap[k]? = some o := fun k o hk => by rw [hW0]; exact (Below.heap_alloc _ _ _ (Array.getElem?_eq_some_iff.1 hk).1).trans hk
      have hnG : ¬ G W.heap.size := fun h => by have := hGI _ _ _ hi _ h; omega
      refine ⟨_, run_beginRound hl0 (by rw [hrec]), ?_⟩
      clear hy hW0
      obtain ⟨W2, hW2⟩ : ∃ W2, W0.putObj (w.heap.size + 1) (.loop { rec .ready none with state := .busy }) = W2 := ⟨_, rfl⟩
      have hl2 : W2.heap[w.heap.size + 1]? = some (.loop { rec .ready none with state := .busy }) := by rw [← hW2]; exact World.putObj_heap_same (by omega)
      have hk2 : W2.heap[w.heap.size]? = some (.deferred (some [])) := by rw [← hW2]; exact (World.putObj_heap_other (by omega)).trans hk0
      have hB2 : W2.heap[W.heap.size]? = some (ob x) := by rw [← hW2]; exact (World.putObj_heap_other (by omega)).trans hB0
      have hi2 : I pre G W2 := by
        rw [← hW2]
        exact hI _ _ _ _ _ _ hi0 (grownBy_putObj' W0 _ _) (fun r e => by cases e; exact .inr ⟨by omega, _, hl0, rfl⟩) (fun k h => .inl h)
      have hx2 : H pre x W2 := by rw [← hW2]; exact hH pre x W0 _ _ _ hx0 hl0 rfl
      have hs2 : W2.heap.size = W0.heap.size := by rw [← hW2]; simp
      have hc2 : ∀ (k : Nat) (o : Obj), W.heap[k]? = some o → o.isCells = true → W2.heap[k]? = some o := fun k o hk ho => by
        rw [← hW2]
        refine (World.putObj_heap_other ?_).trans (hc0 k o hk)
        rintro rfl
        rw [hl] at hk; cases hk; cases ho
      rw [hW2]
      refine wpIn_mono (hbody _ pre x G W2 W.heap.size hi2 hx2 hB2 (by omega) hnG) ?_
      rintro e a3 W3 hp
      cases e with
      | normal =>
        obtain ⟨hk3, hi3⟩ := hp
        have hl3 := hk3.same _ _ hl2 (.inr (.inr rfl))
        have hd3 := hk3.same _ _ hk2 (.inr (.inr rfl))
        have he := run_endRound (P := P) none hl3
        have hlt3 := (Array.getElem?_eq_some_iff.1 hl3).1
        refine ⟨_, _, he, .inl ⟨rfl, ⟨?_, ⟨?_, hl'⟩, ⟨(World.putObj_heap_other (by omega)).trans hd3, hk'⟩⟩, ?_, ?_⟩⟩
        · exact hI _ _ _ _ _ _ hi3 (grownBy_putObj' W3 _ _) (fun r e => by cases e; exact .inr ⟨by omega, _, hl3, rfl⟩) (fun k h => .inl h)
        · rw [World.putObj_heap_same hlt3, hrec]; rfl
        · have := hk3.size; simp; omega
        · intro k o hk ho hG
          have h3 := hk3.same k o (hc2 k o hk ho) (by rcases hG with h | h; exact .inl h; exact .inr (.inl h))
          refine (World.putObj_heap_other ?_).trans h3
          rintro rfl
          rw [hl3] at h3; cases h3; cases ho
      | ret => exact hp.elim
      | exit id =>
        obtain ⟨hk3, hi3⟩ := hp
        have hl3 := hk3.same _ _ hl2 (.inr (.inr rfl))
        have hd3 := hk3.same _ _ hk2 (.inr (.inr rfl))
        have he := run_endRound (P := P) (some (.exit id)) hl3
        have hlt3 := (Array.getElem?_eq_some_iff.1 hl3).1
        refine ⟨_, _, he, .inr ⟨rfl, .exit id, hIx _ _ _ _ _ hi3 (by omega) hl3 rfl, ?_, (World.putObj_heap_other (by omega)).trans hd3⟩⟩
        rw [World.putObj_heap_same hlt3, hrec]; rfl
      | goto t => exact hp.elim
      | panic ch => exact hp.elim
      | outgrown => exact hp.elim
    · rintro e W2 ⟨⟨v, rfl⟩, c, hx, hl, hk⟩
      have hlt := (Array.getElem?_eq_some_iff.1 hl).1
      refine ⟨some c, _, by have := run_endLoop (P := P) hl (by rw [hrec]; simp); rw [hrec] at this; exact this, ?_⟩
      exact hstop _ c _ (Nat.le_refl _) (hIx _ _ _ _ _ hx (by omega) hl rfl) ((World.putObj_heap_other (by omega)).trans hk)
end Go.Proofs.Ytaieeljkalciiaa
