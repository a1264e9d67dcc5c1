/- The examples that each statement of this stage calls first. -/
import Derived.Test.YtokiejichnnmnaaMLivM
namespace Go.Proofs.Ytokiejichnnmnaa
open Go Go.RowKit Num

set_option maxRecDepth 100000 in
set_option maxHeartbeats 1000000 in
theorem of_any (A : Option Addr) (m c : Nat) (w : World) : Calls Try.prog 45 #[.slice A m c] w fun e w' => e = .returned (.agg #[.int .i64 5, .slice A m c]) ∧ Below w.heap.size w w' := by
  have HB := Lib.hid ((Below.refl w.heap.size w).alloc (Nat.le_refl _) (.cells #[.int .i64 5, .slice A m c] 61))
  go_enter Try.func45, Try.ntmps45
  go_wp2
  refine bodyPost_ret (v := .agg #[.int .i64 5, .slice A m c]) ?_ rfl ⟨rfl, HB.out⟩
  have r1 := row_new (W := w) rfl 61 #[.int .i64 5, .slice A m c]
  have hc0 := r1.cell (i := 0) rfl
  have hc1 := r1.cell (i := 1) rfl
  simp [results, Try.results45, go_sem, hc0, hc1]

set_option maxRecDepth 100000 in
set_option maxHeartbeats 1000000 in
theorem is_any (v u : Value) (p : Int) (m : Nat) (n : Nat → Nat) (f g : Nat → Nat → Int) (w : World) (hm : m ≤ 1000000) (hn : ∀ i, i < m → n i ≤ 1000000) (hv : Grid w (· < w.heap.size) v m n f) (hu : Grid w (· < w.heap.size) u m n g) :
    Calls Try.prog 50 #[.agg #[.int .i64 p, v], .int .i64 0, .agg #[.int .i64 p, u]] w fun e w' => e = .returned (.bool (gridB m n f g)) ∧ Below w.heap.size w w' := by
  have HS := fun W (hb : Below w.heap.size w W) => Lib.hid (mSame_any v u p m n f g W hm hn (hv.on hb) (hu.on hb))
  obtain ⟨A, c, rfl, hcA⟩ := hv.form
  obtain ⟨B, d, rfl, hcB⟩ := hu.form
  have HB := Lib.hid (((Below.refl w.heap.size w).alloc (Nat.le_refl _) (.cells #[.int .i64 p, .slice A m c] 61)).alloc (by simp) (.cells #[.int .i64 p, .slice B m d] 61))
  clear hv hu hn
  go_enter Try.func50, Try.ntmps50
  go_wp2_with fail
  refine (HS _ HB.out).out.mono ?_
  rintro e w2 ⟨rfl, hb⟩
  have HB2 := Lib.hid (HB.out.trans (hb.mono HB.out.size))
  go_wp2_with fail
  go_ret
  exact ⟨rfl, HB2.out⟩

/-- A written matrix of two rows. -/
theorem of2 (w : World) (a b c d : Int) : Grid (((w.alloc (.cells #[.int .i64 a, .int .i64 b] 3)).alloc (.cells #[.int .i64 c, .int .i64 d] 3)).alloc (.cells #[.slice (some ⟨w.heap.size, 0, none⟩) 2 2, .slice (some ⟨w.heap.size + 1, 0, none⟩) 2 2] 28))
      (New w (((w.alloc (.cells #[.int .i64 a, .int .i64 b] 3)).alloc (.cells #[.int .i64 c, .int .i64 d] 3)).alloc (.cells #[.slice (some ⟨w.heap.size, 0, none⟩) 2 2, .slice (some ⟨w.heap.size + 1, 0, none⟩) 2 2] 28))) (.slice (some ⟨w.heap.size + 1 + 1, 0, none⟩) 2 2) 2 (fun _ => 2) (M2 a b c d) ∧
    Below w.heap.size w (((w.alloc (.cells #[.int .i64 a, .int .i64 b] 3)).alloc (.cells #[.int .i64 c, .int .i64 d] 3)).alloc (.cells #[.slice (some ⟨w.heap.size, 0, none⟩) 2 2, .slice (some ⟨w.heap.size + 1, 0, none⟩) 2 2] 28)) ∧
    (((w.alloc (.cells #[.int .i64 a, .int .i64 b] 3)).alloc (.cells #[.int .i64 c, .int .i64 d] 3)).alloc (.cells #[.slice (some ⟨w.heap.size, 0, none⟩) 2 2, .slice (some ⟨w.heap.size + 1, 0, none⟩) 2 2] 28)).heap.size = w.heap.size + 1 + 1 + 1 := by
  have h1 := ((row_new (W := w) rfl 3 #[.int .i64 a, .int .i64 b]).alloc (.cells #[.int .i64 c, .int .i64 d] 3)).alloc (.cells #[.slice (some ⟨w.heap.size, 0, none⟩) 2 2, .slice (some ⟨w.heap.size + 1, 0, none⟩) 2 2] 28)
  have h2 := (row_new (W := w.alloc (.cells #[.int .i64 a, .int .i64 b] 3)) (g := w.heap.size + 1) (by simp) 3 #[.int .i64 c, .int .i64 d]).alloc (.cells #[.slice (some ⟨w.heap.size, 0, none⟩) 2 2, .slice (some ⟨w.heap.size + 1, 0, none⟩) 2 2] 28)
  have h3 := row_new (W := (w.alloc (.cells #[.int .i64 a, .int .i64 b] 3)).alloc (.cells #[.int .i64 c, .int .i64 d] 3)) (g := w.heap.size + 1 + 1) (by simp) 28 #[.slice (some ⟨w.heap.size, 0, none⟩) 2 2, .slice (some ⟨w.heap.size + 1, 0, none⟩) 2 2]
  have hz : (((w.alloc (.cells #[.int .i64 a, .int .i64 b] 3)).alloc (.cells #[.int .i64 c, .int .i64 d] 3)).alloc (.cells #[.slice (some ⟨w.heap.size, 0, none⟩) 2 2, .slice (some ⟨w.heap.size + 1, 0, none⟩) 2 2] 28)).heap.size = w.heap.size + 1 + 1 + 1 := by simp
  have hb : Below w.heap.size w (((w.alloc (.cells #[.int .i64 a, .int .i64 b] 3)).alloc (.cells #[.int .i64 c, .int .i64 d] 3)).alloc (.cells #[.slice (some ⟨w.heap.size, 0, none⟩) 2 2, .slice (some ⟨w.heap.size + 1, 0, none⟩) 2 2] 28)) :=
    (((Below.refl w.heap.size w).alloc (Nat.le_refl _) _).alloc (by simp) _).alloc (by simp; omega) _
  generalize ((w.alloc (.cells #[.int .i64 a, .int .i64 b] 3)).alloc (.cells #[.int .i64 c, .int .i64 d] 3)).alloc (.cells #[.slice (some ⟨w.heap.size, 0, none⟩) 2 2, .slice (some ⟨w.heap.size + 1, 0, none⟩) 2 2] 28) = W at h1 h2 h3 hz hb ⊢
  have n1 : New w W w.heap.size := ⟨Nat.le_refl _, by omega⟩
  have n2 : New w W (w.heap.size + 1) := ⟨by omega, by omega⟩
  have n3 : New w W (w.heap.size + 1 + 1) := ⟨by omega, by omega⟩
  refine ⟨⟨_, 2, rfl, Nat.le_refl _, fun _ => ⟨_, 0, rfl, n3, fun i hi => ?_⟩⟩, hb, hz⟩
  rcases (by omega : i = 0 ∨ i = 1) with rfl | rfl
  · refine ⟨_, h3.cell (i := 0) rfl, _, 2, rfl, Nat.le_refl _, fun _ => ⟨_, 0, rfl, n1, fun j hj => ?_⟩⟩
    have hj2 : j < 2 := hj
    rcases (by omega : j = 0 ∨ j = 1) with rfl | rfl
    · exact h1.cell (i := 0) rfl
    · exact h1.cell (i := 1) rfl
  · refine ⟨_, h3.cell (i := 1) rfl, _, 2, rfl, Nat.le_refl _, fun _ => ⟨_, 0, rfl, n2, fun j hj => ?_⟩⟩
    have hj2 : j < 2 := hj
    rcases (by omega : j = 0 ∨ j = 1) with rfl | rfl
    · exact h2.cell (i := 0) rfl
    · exact h2.cell (i := 1) rfl
/-- A written matrix of two rows, the second row first. -/
theorem of2r (w : World) (a b c d : Int) : Grid (((w.alloc (.cells #[.int .i64 c, .int .i64 d] 3)).alloc (.cells #[.int .i64 a, .int .i64 b] 3)).alloc (.cells #[.slice (some ⟨w.heap.size + 1, 0, none⟩) 2 2, .slice (some ⟨w.heap.size, 0, none⟩) 2 2] 28))
      (New w (((w.alloc (.cells #[.int .i64 c, .int .i64 d] 3)).alloc (.cells #[.int .i64 a, .int .i64 b] 3)).alloc (.cells #[.slice (some ⟨w.heap.size + 1, 0, none⟩) 2 2, .slice (some ⟨w.heap.size, 0, none⟩) 2 2] 28))) (.slice (some ⟨w.heap.size + 1 + 1, 0, none⟩) 2 2) 2 (fun _ => 2) (M2 a b c d) ∧
    Below w.heap.size w (((w.alloc (.cells #[.int .i64 c, .int .i64 d] 3)).alloc (.cells #[.int .i64 a, .int .i64 b] 3)).alloc (.cells #[.slice (some ⟨w.heap.size + 1, 0, none⟩) 2 2, .slice (some ⟨w.heap.size, 0, none⟩) 2 2] 28)) ∧
    (((w.alloc (.cells #[.int .i64 c, .int .i64 d] 3)).alloc (.cells #[.int .i64 a, .int .i64 b] 3)).alloc (.cells #[.slice (some ⟨w.heap.size + 1, 0, none⟩) 2 2, .slice (some ⟨w.heap.size, 0, none⟩) 2 2] 28)).heap.size = w.heap.size + 1 + 1 + 1 := by
  have h1 := ((row_new (W := w) rfl 3 #[.int .i64 c, .int .i64 d]).alloc (.cells #[.int .i64 a, .int .i64 b] 3)).alloc (.cells #[.slice (some ⟨w.heap.size + 1, 0, none⟩) 2 2, .slice (some ⟨w.heap.size, 0, none⟩) 2 2] 28)
  have h2 := (row_new (W := w.alloc (.cells #[.int .i64 c, .int .i64 d] 3)) (g := w.heap.size + 1) (by simp) 3 #[.int .i64 a, .int .i64 b]).alloc (.cells #[.slice (some ⟨w.heap.size + 1, 0, none⟩) 2 2, .slice (some ⟨w.heap.size, 0, none⟩) 2 2] 28)
  have h3 := row_new (W := (w.alloc (.cells #[.int .i64 c, .int .i64 d] 3)).alloc (.cells #[.int .i64 a, .int .i64 b] 3)) (g := w.heap.size + 1 + 1) (by simp) 28 #[.slice (some ⟨w.heap.size + 1, 0, none⟩) 2 2, .slice (some ⟨w.heap.size, 0, none⟩) 2 2]
  have hz : (((w.alloc (.cells #[.int .i64 c, .int .i64 d] 3)).alloc (.cells #[.int .i64 a, .int .i64 b] 3)).alloc (.cells #[.slice (some ⟨w.heap.size + 1, 0, none⟩) 2 2, .slice (some ⟨w.heap.size, 0, none⟩) 2 2] 28)).heap.size = w.heap.size + 1 + 1 + 1 := by simp
  have hb : Below w.heap.size w (((w.alloc (.cells #[.int .i64 c, .int .i64 d] 3)).alloc (.cells #[.int .i64 a, .int .i64 b] 3)).alloc (.cells #[.slice (some ⟨w.heap.size + 1, 0, none⟩) 2 2, .slice (some ⟨w.heap.size, 0, none⟩) 2 2] 28)) :=
    (((Below.refl w.heap.size w).alloc (Nat.le_refl _) _).alloc (by simp) _).alloc (by simp; omega) _
  generalize ((w.alloc (.cells #[.int .i64 c, .int .i64 d] 3)).alloc (.cells #[.int .i64 a, .int .i64 b] 3)).alloc (.cells #[.slice (some ⟨w.heap.size + 1, 0, none⟩) 2 2, .slice (some ⟨w.heap.size, 0, none⟩) 2 2] 28) = W at h1 h2 h3 hz hb ⊢
  have n1 : New w W w.heap.size := ⟨Nat.le_refl _, by omega⟩
  have n2 : New w W (w.heap.size + 1) := ⟨by omega, by omega⟩
  have n3 : New w W (w.heap.size + 1 + 1) := ⟨by omega, by omega⟩
  refine ⟨⟨_, 2, rfl, Nat.le_refl _, fun _ => ⟨_, 0, rfl, n3, fun i hi => ?_⟩⟩, hb, hz⟩
  rcases (by omega : i = 0 ∨ i = 1) with rfl | rfl
  · refine ⟨_, h3.cell (i := 0) rfl, _, 2, rfl, Nat.le_refl _, fun _ => ⟨_, 0, rfl, n2, fun j hj => ?_⟩⟩
    have hj2 : j < 2 := hj
    rcases (by omega : j = 0 ∨ j = 1) with rfl | rfl
    · exact h2.cell (i := 0) rfl
    · exact h2.cell (i := 1) rfl
  · refine ⟨_, h3.cell (i := 1) rfl, _, 2, rfl, Nat.le_refl _, fun _ => ⟨_, 0, rfl, n1, fun j hj => ?_⟩⟩
    have hj2 : j < 2 := hj
    rcases (by omega : j = 0 ∨ j = 1) with rfl | rfl
    · exact h1.cell (i := 0) rfl
    · exact h1.cell (i := 1) rfl
end Go.Proofs.Ytokiejichnnmnaa
