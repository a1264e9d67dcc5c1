/- matrix.power: what holds between two rounds, apart from the walk. -/
import Derived.Test.YtokiejichnnmnaaMSq
import Derived.Test.YtokiejichnnmnaaMOne
namespace Go.Proofs.Ytokiejichnnmnaa
open Go Go.RowKit Go.Shelf Num

/-- The squares that the binary digits say. -/
def pwGo (p : Int) (m : Nat) : Nat → (Nat → Nat → Int) → (Nat → Nat → Int) → Nat → (Nat → Nat → Int)
  | 0, r, _, _ => r
  | k + 1, r, s, n =>
    if n / 2 = 0 then (if n % 2 = 1 then mulF p m r s else r)
    else pwGo p m k (if n % 2 = 1 then mulF p m r s else r) (mulF p m s s) (n / 2)
def powF (p : Int) (m n : Nat) (f : Nat → Nat → Int) : Nat → Nat → Int := pwGo p m 64 oneF f n

theorem Row.row_set {w : World} {g : Nat} {t : TypeId} {x y : Value} (h : Row w g t #[x, y]) (u v : Value) : Row ((w.setCell ⟨g, 0, none⟩ u).setCell ⟨g, 1, none⟩ v) g t #[u, v] := (h.set 0 u).set 1 v

/-- Between two rounds. -/
structure PwI (w : World) (z0 NB RB R : Nat) (p : Int) (m n : Nat) (f : Nat → Nat → Int) (pre : List SV) (G : Nat → Prop) (W : World) : Prop where
  b : Below w.heap.size w W
  z : z0 ≤ W.heap.size
  gl : ∀ k, G k → z0 ≤ k ∧ k < W.heap.size
  nb : Boxed W NB 135 (.int .u64 ((n / 2 ^ pre.length : Nat) : Int))
  rr : Row W R 61 #[.int .i64 0, .slice none 0 0]
  le : pre.length < 64
  go : ∃ (r : SV) (F : Nat → Nat → Int), Row W RB 61 #[.int .i64 p, .slice r.1 m r.2] ∧ Grid W (fun b => w.heap.size ≤ b ∧ b < W.heap.size ∧ ¬ G b ∧ b ≠ NB ∧ b ≠ RB ∧ b ≠ R) (.slice r.1 m r.2) m (fun _ => m) F ∧ InG p m m F ∧
    pwGo p m (64 - pre.length) F (sqF p m f pre.length) (n / 2 ^ pre.length) = powF p m n f

/-- Behind the product of a round. -/
structure PwM (w : World) (z0 NB RB R : Nat) (p : Int) (m n : Nat) (f : Nat → Nat → Int) (pre : List SV) (G : Nat → Prop) (W0 W : World) : Prop where
  keep : KeepG (· < w.heap.size) G W0 W
  b : Below w.heap.size w W
  z : z0 ≤ W.heap.size
  gl : ∀ k, G k → z0 ≤ k ∧ k < W.heap.size
  nb : Boxed W NB 135 (.int .u64 ((n / 2 ^ pre.length : Nat) : Int))
  rr : Row W R 61 #[.int .i64 0, .slice none 0 0]
  le : pre.length < 64
  go : ∃ (r : SV) (F : Nat → Nat → Int), Row W RB 61 #[.int .i64 p, .slice r.1 m r.2] ∧ Grid W (fun b => w.heap.size ≤ b ∧ b < W.heap.size ∧ ¬ G b ∧ b ≠ NB ∧ b ≠ RB ∧ b ≠ R) (.slice r.1 m r.2) m (fun _ => m) F ∧ InG p m m F ∧
    (if n / 2 ^ pre.length / 2 = 0 then F else pwGo p m (63 - pre.length) F (sqF p m f (pre.length + 1)) (n / 2 ^ pre.length / 2)) = powF p m n f

/-- Where the loop is left. -/
structure PwX (w : World) (RB R : Nat) (p : Int) (m n : Nat) (f : Nat → Nat → Int) (W : World) : Prop where
  b : Below w.heap.size w W
  rr : Row W R 61 #[.int .i64 0, .slice none 0 0]
  go : ∃ r : SV, Row W RB 61 #[.int .i64 p, .slice r.1 m r.2] ∧ Grid W (fun b => w.heap.size ≤ b ∧ b < W.heap.size ∧ b ≠ R) (.slice r.1 m r.2) m (fun _ => m) (powF p m n f)

/-- The numbers of the boxes. -/
structure PwN (w : World) (z0 NB RB R : Nat) : Prop where
  n1 : w.heap.size ≤ NB
  n2 : NB < z0
  r1 : w.heap.size ≤ RB
  r2 : RB < z0
  s1 : w.heap.size ≤ R
  s2 : R < z0
  d1 : NB ≠ RB
  d2 : NB ≠ R
  d3 : RB ≠ R

theorem PwI.skip {w : World} {z0 NB RB R : Nat} {p : Int} {m n : Nat} {f : Nat → Nat → Int} {pre : List SV} {G : Nat → Prop} {W : World} (h : PwI w z0 NB RB R p m n f pre G W) (ho : n / 2 ^ pre.length % 2 ≠ 1) : PwM w z0 NB RB R p m n f pre G W W := by
  obtain ⟨r, F, h1, h2, h3, h4⟩ := h.go
  refine ⟨KeepG.refl _ _ _, h.b, h.z, h.gl, h.nb, h.rr, h.le, r, F, h1, h2, h3, ?_⟩
  have hl := h.le
  rw [show 64 - pre.length = (63 - pre.length) + 1 by omega, pwGo, if_neg ho] at h4
  exact h4

theorem grid_grown {W W1 : World} {S S' : Nat → Prop} {v : Value} {m : Nat} {n : Nat → Nat} {f : Nat → Nat → Int} (h : Grid W S v m n f) (hS : ∀ b, S b → b < W.heap.size → S' b) (hk : ∀ k o, S k → W.heap[k]? = some o → o.isCells = true → W1.heap[k]? = some o) : Grid W1 S' v m n f :=
  h.keep2 fun q u hq hc => by
    obtain ⟨o, ho, hoc⟩ := cell_obj hc
    exact ⟨hS _ hq (Array.getElem?_eq_some_iff.1 ho).1, cell_same hc fun o ho hoc => hk _ o hq ho hoc⟩

theorem PwI.mul {w : World} {z0 NB RB R : Nat} {p : Int} {m n : Nat} {f : Nat → Nat → Int} {pre : List SV} {G : Nat → Prop} {W W1 : World} (hN : PwN w z0 NB RB R) (hp : 0 < p) (h : PwI w z0 NB RB R p m n f pre G W) {r0 r : SV} {F : Nat → Nat → Int}
    (h0 : Row W RB 61 #[.int .i64 p, .slice r0.1 m r0.2]) (hF : pwGo p m (64 - pre.length) F (sqF p m f pre.length) (n / 2 ^ pre.length) = powF p m n f) (ho : n / 2 ^ pre.length % 2 = 1)
    (hb : Below W.heap.size W W1) (hg : Grid W1 (New W W1) (.slice r.1 m r.2) m (fun _ => m) (mulF p m F (sqF p m f pre.length))) :
    PwM w z0 NB RB R p m n f pre G W ((W1.setCell ⟨RB, 0, none⟩ (.int .i64 p)).setCell ⟨RB, 1, none⟩ (.slice r.1 m r.2)) := by
  have hz := hb.size
  have hwz := h.b.size
  have hzz := h.z
  have hl := h.le
  have hr1 := hN.r1
  have hr2 := hN.r2
  have hn2 := hN.n2
  have hs2 := hN.s2
  have hnG : ∀ b, b < z0 → ¬ G b := fun b hb hG => by have := (h.gl b hG).1; omega
  have hk0 : KeepG (· < w.heap.size) G W W1 := ⟨hb.size, fun k o hk _ => (hb.block k (Array.getElem?_eq_some_iff.1 hk).1).trans hk⟩
  have hrow := Row.below h0 hb h0.lt
  have hcells : ∀ (W2 : World) (t : TypeId) (c : Array Value), Row W2 RB t c → ∀ o : Obj, W2.heap[RB]? = some o → o.isCells = true := fun W2 t c hr o ho => by
    rw [show W2.heap[RB]? = _ from hr] at ho; cases ho; rfl
  refine ⟨?_, ?_, ?_, ?_, ?_, ?_, hl, r, mulF p m F (sqF p m f pre.length), Row.row_set hrow _ _, ?_, mulF_in hp _ _ _ _ _, ?_⟩
  · refine (hk0.grown (sq_grown W1 ⟨RB, 0, none⟩ (.int .i64 p)) fun x e => ?_).grown (sq_grown _ ⟨RB, 1, none⟩ (.slice r.1 m r.2)) fun x e => ?_
    · cases e; exact ⟨by show ¬ RB < _; omega, hnG _ hr2, hcells _ _ _ hrow⟩
    · cases e; exact ⟨by show ¬ RB < _; omega, hnG _ hr2, hcells _ _ _ (hrow.set 0 _)⟩
  · exact ((h.b.trans (hb.mono hwz)).setCell (p := ⟨RB, 0, none⟩) hr1 _).setCell (p := ⟨RB, 1, none⟩) hr1 _
  · simp only [World.size_setCell]; omega
  · intro k hk
    have := h.gl k hk
    simp only [World.size_setCell]; omega
  · have h1 : Boxed W1 NB 135 _ := (hb.block NB h.nb.lt).trans h.nb
    exact (Below.heap_setCell _ ⟨RB, 1, none⟩ _ _ hN.d1).trans ((Below.heap_setCell _ ⟨RB, 0, none⟩ _ _ hN.d1).trans h1)
  · exact ((Row.below h.rr hb h.rr.lt).far (p := ⟨RB, 0, none⟩) (Ne.symm hN.d3) _).far (p := ⟨RB, 1, none⟩) (Ne.symm hN.d3) _
  · refine ((hg.set (p := ⟨RB, 0, none⟩) (fun hh => by have h1 : W.heap.size ≤ RB := hh.1; omega) (.int .i64 p)).set (p := ⟨RB, 1, none⟩) (fun hh => by have h1 : W.heap.size ≤ RB := hh.1; omega) (.slice r.1 m r.2)).more fun b hb => ?_
    have h1 := hb.1
    have h2 := hb.2
    simp only [World.size_setCell]
    exact ⟨by omega, h2, fun hG => by have := (h.gl b hG).2; omega, by omega, by omega, by omega⟩
  · rw [show 64 - pre.length = (63 - pre.length) + 1 by omega, pwGo, if_pos ho] at hF
    exact hF

theorem PwM.next {w : World} {z0 NB RB R : Nat} {p : Int} {m n : Nat} {f : Nat → Nat → Int} {pre : List SV} {G : Nat → Prop} {W0 W : World} (hN : PwN w z0 NB RB R) (h : PwM w z0 NB RB R p m n f pre G W0 W) (hn : n < 18446744073709551616) (x : SV) (ho : n / 2 ^ pre.length / 2 ≠ 0) :
    KeepG (· < w.heap.size) G W0 (W.setCell ⟨NB, 0, none⟩ (.int .u64 ((n / 2 ^ pre.length / 2 : Nat) : Int))) ∧ PwI w z0 NB RB R p m n f (pre ++ [x]) G (W.setCell ⟨NB, 0, none⟩ (.int .u64 ((n / 2 ^ pre.length / 2 : Nat) : Int))) := by
  obtain ⟨r, F, h1, h2, h3, h4⟩ := h.go
  have hn1 := hN.n1
  have hn2 := hN.n2
  have e1 : n / 2 ^ (pre.length + 1) = n / 2 ^ pre.length / 2 := by rw [Nat.pow_succ, Nat.div_div_eq_div_mul]
  have hlt : pre.length + 1 < 64 := by
    apply Classical.byContradiction
    intro hc
    have hl := h.le
    have h63 : pre.length + 1 = 64 := by omega
    rw [← e1, h63] at ho
    exact ho (Nat.div_eq_of_lt hn)
  refine ⟨h.keep.box h.nb (by show ¬ NB < _; omega) (fun hG => by have := (h.gl _ hG).1; omega) _, h.b.setCell (p := ⟨NB, 0, none⟩) hn1 _, ?_, ?_, ?_, h.rr.far (p := ⟨NB, 0, none⟩) (Ne.symm hN.d2) _, ?_, r, F, h1.far (p := ⟨NB, 0, none⟩) (Ne.symm hN.d1) _, ?_, h3, ?_⟩
  · simp only [World.size_setCell]; exact h.z
  · simp only [World.size_setCell]; exact h.gl
  · rw [List.length_append, List.length_cons, List.length_nil, e1]; exact h.nb.set _
  · rw [List.length_append, List.length_cons, List.length_nil]; exact hlt
  · simp only [World.size_setCell]
    exact h2.set (p := ⟨NB, 0, none⟩) (fun hh => hh.2.2.2.1 rfl) _
  · rw [List.length_append, List.length_cons, List.length_nil, e1, show 64 - (pre.length + 1) = 63 - pre.length by omega]
    rw [if_neg ho] at h4
    exact h4

theorem PwM.stop {w : World} {z0 NB RB R : Nat} {p : Int} {m n : Nat} {f : Nat → Nat → Int} {pre : List SV} {G : Nat → Prop} {W0 W : World} (hN : PwN w z0 NB RB R) (h : PwM w z0 NB RB R p m n f pre G W0 W) (ho : n / 2 ^ pre.length / 2 = 0) (u : Value) :
    KeepG (fun _ => False) (fun _ => False) W0 (W.setCell ⟨NB, 0, none⟩ u) ∧ PwX w RB R p m n f (W.setCell ⟨NB, 0, none⟩ u) := by
  obtain ⟨r, F, h1, h2, h3, h4⟩ := h.go
  have hn1 := hN.n1
  rw [if_pos ho] at h4
  subst h4
  refine ⟨KeepG.box ⟨h.keep.size, fun k o hk ho => h.keep.same k o hk (by rcases ho with ho | ho | ho; exact ho.elim; exact ho.elim; exact .inr (.inr ho))⟩ h.nb id id _, h.b.setCell (p := ⟨NB, 0, none⟩) hn1 _, h.rr.far (p := ⟨NB, 0, none⟩) (Ne.symm hN.d2) _, r, h1.far (p := ⟨NB, 0, none⟩) (Ne.symm hN.d1) _, ?_⟩
  refine (h2.set (p := ⟨NB, 0, none⟩) (fun hh => hh.2.2.2.1 rfl) _).more fun b hb => ?_
  simp only [World.size_setCell]
  exact ⟨hb.1, hb.2.1, hb.2.2.2.2.2⟩

theorem PwI.abides {w : World} {z0 NB RB R : Nat} {p : Int} {m n : Nat} {f : Nat → Nat → Int} (hN : PwN w z0 NB RB R) : AbidesG z0 (PwI w z0 NB RB R p m n f) := by
  intro s G G' A B row h hg hr hG
  obtain ⟨r, F, h1, h2, h3, h4⟩ := h.go
  have hn2 := hN.n2
  have hr2 := hN.r2
  have hs2 := hN.s2
  have hz := hg.size
  have hzz := h.z
  have far : ∀ k (o : Obj), A.heap[k]? = some o → o.isCells = true → ¬ G k → some k ≠ row := fun k o hk ho hn e => by
    rcases hr k e.symm with h | ⟨_, o', h, h'⟩
    · exact hn h
    · rw [hk] at h; cases h; rw [ho] at h'; cases h'
  have hnG : ∀ b, b < z0 → ¬ G b := fun b hb hG => by have := (h.gl b hG).1; omega
  have low : ∀ k, k < z0 → k < A.heap.size → (∀ o : Obj, A.heap[k]? = some o → o.isCells = true) → B.heap[k]? = A.heap[k]? := fun k hk hkA ho => by
    obtain ⟨o, hko⟩ : ∃ o, A.heap[k]? = some o := ⟨_, Array.getElem?_eq_getElem hkA⟩
    exact hg.block k hkA (far k o hko (ho o hko) (hnG k hk))
  have lowc : ∀ k t c, Row A k t c → k < z0 → B.heap[k]? = A.heap[k]? := fun k t c hrow hk => low k hk hrow.lt (fun o ho => by rw [show A.heap[k]? = _ from hrow] at ho; cases ho; rfl)
  refine ⟨?_, by omega, ?_, ?_, ?_, h.le, r, F, ?_, ?_, h3, h4⟩
  · refine ⟨hg.os.trans h.b.os, hg.tape.trans h.b.tape, hg.output.trans h.b.output, Nat.le_trans h.b.size hz, fun k hk => ?_⟩
    have hkA : k < A.heap.size := Nat.lt_of_lt_of_le hk h.b.size
    refine (hg.block k hkA ?_).trans (h.b.block k hk)
    intro e
    rcases hr k e.symm with h' | ⟨h', _⟩
    · have := (h.gl _ h').1; have := hN.n1; omega
    · have := hN.n1; omega
  · intro k hk
    rcases hG k hk with h' | h'
    · have := h.gl k h'; omega
    · omega
  · exact (lowc NB _ _ h.nb hn2).trans h.nb
  · exact (lowc R _ _ h.rr hs2).trans h.rr
  · exact (lowc RB _ _ h1 hr2).trans h1
  · refine grid_grown h2 (fun b hb hbl => ⟨hb.1, by omega, fun hG' => ?_, hb.2.2.2⟩) fun k o hk ho hoc => (hg.block k (Array.getElem?_eq_some_iff.1 ho).1 (far k o ho hoc hk.2.2.1)).trans ho
    rcases hG b hG' with h' | h'
    · exact hb.2.2.1 h'
    · omega

theorem PwX.put {w : World} {RB R : Nat} {p : Int} {m n : Nat} {f : Nat → Nat → Int} {W : World} (h : PwX w RB R p m n f W) {l : Nat} {o : Obj} (o' : Obj) (hl : w.heap.size ≤ l) (ho : W.heap[l]? = some o) (hoc : o.isCells = false) : PwX w RB R p m n f (W.putObj l o') := by
  obtain ⟨r, h1, h2⟩ := h.go
  have ne : ∀ k (o2 : Obj), W.heap[k]? = some o2 → o2.isCells = true → k ≠ l := fun k o2 hk h2 e => by subst e; rw [ho] at hk; cases hk; rw [hoc] at h2; cases h2
  have keep : ∀ k (o2 : Obj), W.heap[k]? = some o2 → o2.isCells = true → (W.putObj l o').heap[k]? = some o2 := fun k o2 hk h2 => (World.putObj_heap_other (ne k o2 hk h2)).trans hk
  refine ⟨⟨h.b.os, h.b.tape, h.b.output, by simpa using h.b.size, fun k hk => ?_⟩, keep _ _ h.rr rfl, r, keep _ _ h1 rfl, grid_grown h2 (fun b hb hbl => by simpa using hb) fun k o hk ho hoc => keep k o ho hoc⟩
  exact (World.putObj_heap_other (by omega)).trans (h.b.block k hk)

theorem SqH.put {p : Int} {m : Nat} {f : Nat → Nat → Int} {pre : List SV} {x : SV} {W : World} (h : SqH p m f pre x W) {l : Nat} {o : Obj} (o' : Obj) (ho : W.heap[l]? = some o) (hoc : o.isCells = false) : SqH p m f pre x (W.putObj l o') := by
  have ne : ∀ k (o2 : Obj), W.heap[k]? = some o2 → o2.isCells = true → k ≠ l := fun k o2 hk h2 e => by subst e; rw [ho] at hk; cases hk; rw [hoc] at h2; cases h2
  exact grid_grown h (fun b hb hbl => by simpa using hb) fun k o hk ho hoc => (World.putObj_heap_other (ne k o ho hoc)).trans ho
theorem SqH.alloc {p : Int} {m : Nat} {f : Nat → Nat → Int} {pre : List SV} {x : SV} {W : World} (h : SqH p m f pre x W) (o : Obj) : SqH p m f pre x (W.alloc o) :=
  Grid.on h ((Below.refl W.heap.size W).alloc (Nat.le_refl _) o)
end Go.Proofs.Ytokiejichnnmnaa
