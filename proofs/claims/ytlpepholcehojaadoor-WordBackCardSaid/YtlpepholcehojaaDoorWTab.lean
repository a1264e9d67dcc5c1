/- Rows of integers written as tables. -/
import Derived.Test.YtlpepholcehojaaDoorWReduce
import Derived.Deep.OwnRows
namespace Go.Proofs.YtlpepholcehojaaDoor
open Go Go.RowKit



/-- n cells that hold the integers f 0, f 1, .. -/
def Tab (n : Nat) (f : Nat → Int) : Array Value := Array.ofFn (n := n) fun i => Value.int .i64 (f i.val)
theorem Tab_get (n : Nat) (f : Nat → Int) (i : Nat) (hi : i < n) : (Tab n f)[i]? = some (.int .i64 (f i)) := by simp [Tab, hi]
theorem Tab_set (n : Nat) (f : Nat → Int) (i : Nat) (x : Int) : (Tab n f).setIfInBounds i (.int .i64 x) = Tab n (fun j => if j = i then x else f j) := by
  apply Array.ext
  · simp [Tab]
  · intro j h1 h2
    have hj : j < n := by simpa [Tab] using h2
    rw [Array.getElem_setIfInBounds (by simpa [Tab] using hj)]
    by_cases e : i = j
    · subst e; simp [Tab]
    · simp [Tab, if_neg e, if_neg (Ne.symm e)]
theorem Tab_congr (n : Nat) (f g : Nat → Int) (h : ∀ i, i < n → f i = g i) : Tab n f = Tab n g := by
  apply Array.ext
  · simp [Tab]
  · intro j h1 h2
    have hj : j < n := by simpa [Tab] using h2
    simp [Tab, h j hj]
theorem madeCells_int (n : Nat) : madeCells (Value.int .i64 0).cells n = Tab n (fun _ => 0) := by
  apply Array.ext
  · simp [madeCells, Tab]
  · intro i h1 h2
    simp [madeCells, Tab, Value.cells, Nat.mod_one]

theorem make_ints (n : Nat) (hn : n ≤ 17592186044400) (W : World) : (Instr.makeSlice 24 (.int .i64 (n : Int)) (.int .i64 (n : Int))).run Tryd.prog W = .ok (.slice (some ⟨W.heap.size, 0, none⟩) n n) (W.alloc (.cells (Tab n fun _ => 0) 3)) := by
  obtain ⟨i0, hi, hz0, hz1, hz2⟩ := info_parts info3'
  have h := run_make (P := Tryd.prog) W 24 3 i0 (.int .i64 0) (by kernel_rfl) hi hz0 .i64 .i64 (n : Int) (n : Int) (by omega) (by omega) (by rw [hz2]; omega) (by omega)
  rw [h, hz1, Nat.mul_one, Int.toNat_natCast, madeCells_int]

/-- A block of integers reads as their list. -/
theorem Row.ints {w : World} {g c : Nat} {zs : List Int} (h : Row w g 3 (Tab zs.length fun i => zs.getD i 0)) : Ints w w.heap.size (.slice (some ⟨g, 0, none⟩) zs.length c) zs :=
  ⟨_, c, rfl, fun _ => ⟨g, 0, rfl, h.lt, fun j hj => by rw [Nat.zero_add]; exact h.cell (Tab_get _ _ j hj)⟩⟩
end Go.Proofs.YtlpepholcehojaaDoor
