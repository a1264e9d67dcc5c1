/- matrix.mul, column, one: grids that a call fills row by row. -/
import Derived.Test.YtinoomcboinokaaMTimes
namespace Go.Proofs.Ytinoomcboinokaa
open Go Go.RowKit Num

/-- k rows of the outer block g0 are filled. -/
def FillG (g0 m : Nat) (n : Nat → Nat) (f : Nat → Nat → Int) (k : Nat) (w : World) : Prop :=
  k ≤ m ∧ ∃ r : Nat → Value, Row w g0 22 (CTab m (part k r (.slice none 0 0))) ∧ ∀ i, i < k → Vec w (fun b => g0 < b ∧ b < w.heap.size) (r i) (n i) (f i)
theorem FillG.start {W : World} {g0 m : Nat} (n : Nat → Nat) (f : Nat → Nat → Int) (h : Row W g0 22 (CTab m fun _ => .slice none 0 0)) : FillG g0 m n f 0 W :=
  ⟨Nat.zero_le _, fun _ => .slice none 0 0, by rw [part_zero]; exact h, fun i hi => absurd hi (by omega)⟩
theorem FillG.row {g0 m : Nat} {n : Nat → Nat} {f : Nat → Nat → Int} {k : Nat} {w : World} (h : FillG g0 m n f k w) : ∃ cs, Row w g0 22 cs ∧ cs.size = m := by
  obtain ⟨_, r, hr, _⟩ := h; exact ⟨_, hr, CTab_size _ _⟩
theorem FillG.lt {g0 m : Nat} {n : Nat → Nat} {f : Nat → Nat → Int} {k : Nat} {w : World} (h : FillG g0 m n f k w) : g0 < w.heap.size := by
  obtain ⟨cs, hr, _⟩ := h.row; exact hr.lt
theorem FillG.put {g0 m : Nat} {n : Nat → Nat} {f : Nat → Nat → Int} {k i : Nat} {w : World} (h : FillG g0 m n f k w) (hi : i < m) : (∃ u, w.cell? ⟨g0, i, none⟩ = some u) ∧ w.frozen? ⟨g0, i, none⟩ = false := by
  obtain ⟨_, r, hr, _⟩ := h
  exact ⟨⟨_, hr.cell (CTab_get _ _ i hi)⟩, hr.frozen i⟩
theorem size_set (w : World) (p : Addr) (v : Value) : (w.setCell p v).heap.size = w.heap.size := by simp [World.setCell]
theorem FillG.on {g0 m : Nat} {n : Nat → Nat} {f : Nat → Nat → Int} {k : Nat} {w w' : World} (h : FillG g0 m n f k w) (hb : Below w.heap.size w w') : FillG g0 m n f k w' := by
  obtain ⟨hk, r, hr, hv⟩ := h
  exact ⟨hk, r, hr.below hb hr.lt, fun i hi => ((hv i hi).below (fun b h => h.2) hb).more fun b h => ⟨h.1, Nat.lt_of_lt_of_le h.2 hb.size⟩⟩
theorem FillG.step {g0 m : Nat} {n : Nat → Nat} {f : Nat → Nat → Int} {k : Nat} {w : World} {v : Value} (h : FillG g0 m n f k w) (hk : k < m) (hv : Vec w (fun b => g0 < b ∧ b < w.heap.size) v (n k) (f k)) : FillG g0 m n f (k + 1) (w.setCell ⟨g0, k, none⟩ v) := by
  obtain ⟨_, r, hr, hrv⟩ := h
  refine ⟨by omega, fun i => if i = k then v else r i, ?_, fun i hi => ?_⟩
  · have h1 := hr.set k v
    rw [part_congr m k r (fun i => if i = k then v else r i) _ (fun i hi => (if_neg (by omega)).symm)] at h1
    rw [part_set m k (fun i => if i = k then v else r i) _ v (if_pos rfl).symm] at h1
    exact h1
  · have hz := size_set w ⟨g0, k, none⟩ v
    by_cases e : i = k
    · subst e
      rw [show (fun j => if j = i then v else r j) i = v from if_pos rfl]
      refine (hv.set (p := ⟨g0, i, none⟩) (fun h => Nat.lt_irrefl _ h.1) v).more fun b h => ⟨h.1, by rw [hz]; exact h.2⟩
    · rw [show (fun j => if j = k then v else r j) i = r i from if_neg e]
      refine ((hrv i (by omega)).set (p := ⟨g0, k, none⟩) (fun h => Nat.lt_irrefl _ h.1) v).more fun b h => ⟨h.1, by rw [hz]; exact h.2⟩
/-- A store into an elder block. -/
theorem FillG.far {g0 m : Nat} {n : Nat → Nat} {f : Nat → Nat → Int} {k : Nat} {w : World} (h : FillG g0 m n f k w) {p : Addr} (hp : p.block < g0) (v : Value) : FillG g0 m n f k (w.setCell p v) := by
  obtain ⟨hk, r, hr, hrv⟩ := h
  exact ⟨hk, r, hr.far (Nat.ne_of_gt hp) v, fun i hi => ((hrv i hi).set (p := p) (fun h => by have := h.1; omega) v).more fun b h => ⟨h.1, by rw [size_set]; exact h.2⟩⟩
theorem FillG.grid {g0 m : Nat} {n : Nat → Nat} {f : Nat → Nat → Int} {w : World} (h : FillG g0 m n f m w) : Grid w (fun b => g0 ≤ b ∧ b < w.heap.size) (.slice (some ⟨g0, 0, none⟩) m m) m n f := by
  obtain ⟨_, r, hr, hv⟩ := h
  rw [part_all] at hr
  exact hr.grid ⟨Nat.le_refl _, hr.lt⟩ (Nat.le_refl _) fun i hi => (hv i hi).more fun b h => ⟨Nat.le_of_lt h.1, h.2⟩
/-- The block of a struct that a call returns. -/
theorem agg_res {w W : World} {R B : Nat} {t : TypeId} {a b : Value} (h : Row W R t #[a, b]) (hb : Below B w W) (hR : B ≤ R) (x y : Value) :
    Row ((W.setCell ⟨R, 0, none⟩ x).setCell ⟨R, 1, none⟩ y) R t #[x, y] ∧ Below B w ((W.setCell ⟨R, 0, none⟩ x).setCell ⟨R, 1, none⟩ y) :=
  ⟨(h.set 0 x).set 1 y, (hb.setCell (p := ⟨R, 0, none⟩) hR x).setCell (p := ⟨R, 1, none⟩) hR y⟩

/-- A call has given a matrix. -/
def GivesM (w : World) (p : Int) (m n : Nat) (f : Nat → Nat → Int) (e : Ending) (w' : World) : Prop := ∃ r, e = .returned (.agg #[.int .i64 p, r]) ∧ Grid w' (New w w') r m (fun _ => n) f ∧ Below w.heap.size w w'
/-- The product of two matrices. -/
def mulF (p : Int) (q : Nat) (f g : Nat → Nat → Int) (i j : Nat) : Int := dotTo (f i) g j q % p

end Go.Proofs.Ytinoomcboinokaa