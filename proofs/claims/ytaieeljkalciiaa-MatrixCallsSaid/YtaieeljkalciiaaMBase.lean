/- Lists and grids of ints in memory, by functions. -/
import Derived.Test.YtaieeljkalciiaaBase
import Derived.Laws.MakeOwn
namespace Go.Proofs.Ytaieeljkalciiaa
open Go Go.RowKit

/-- The slice v reads, in w, as the n ints f 0, f 1, ..; its cells lie in a block of S. -/
def Vec (w : World) (S : Nat → Prop) (v : Value) (n : Nat) (f : Nat → Int) : Prop :=
  ∃ A c, v = .slice A n c ∧ n ≤ c ∧ (0 < n → ∃ b o, A = some ⟨b, o, none⟩ ∧ S b ∧ ∀ j, j < n → w.cell? ⟨b, o + j, none⟩ = some (.int .i64 (f j)))
theorem Vec.keep {w w' : World} {S S' : Nat → Prop} {v : Value} {n : Nat} {f g : Nat → Int} (h : Vec w S v n f) (hS : ∀ b, S b → S' b) (hk : ∀ p : Addr, S p.block → w'.cell? p = w.cell? p) (hf : ∀ j, j < n → f j = g j) : Vec w' S' v n g := by
  obtain ⟨A, c, rfl, hc, h⟩ := h
  refine ⟨A, c, rfl, hc, fun hn => ?_⟩
  obtain ⟨b, o, rfl, hb, hcc⟩ := h hn
  exact ⟨b, o, rfl, hS _ hb, fun j hj => (hk _ hb).trans (by rw [hcc j hj, hf j hj])⟩
theorem Vec.more {w : World} {S S' : Nat → Prop} {v : Value} {n : Nat} {f : Nat → Int} (h : Vec w S v n f) (hS : ∀ b, S b → S' b) : Vec w S' v n f := h.keep hS (fun _ _ => rfl) (fun _ _ => rfl)
theorem Vec.congr {w : World} {S : Nat → Prop} {v : Value} {n : Nat} {f g : Nat → Int} (h : Vec w S v n f) (hf : ∀ j, j < n → f j = g j) : Vec w S v n g := h.keep (fun _ h => h) (fun _ _ => rfl) hf
theorem Vec.below {w w' : World} {S : Nat → Prop} {B : Nat} {v : Value} {n : Nat} {f : Nat → Int} (h : Vec w S v n f) (hS : ∀ b, S b → b < B) (hb : Below B w w') : Vec w' S v n f := h.keep (fun _ h => h) (fun _ hp => hb.cell (hS _ hp)) (fun _ _ => rfl)
theorem Vec.set {w : World} {S : Nat → Prop} {v : Value} {n : Nat} {f : Nat → Int} (h : Vec w S v n f) {p : Addr} (hp : ¬ S p.block) (u : Value) : Vec (w.setCell p u) S v n f :=
  h.keep (fun _ h => h) (fun q hq => World.cell?_setCell_other _ _ _ _ (fun e => hp (by rw [e]; exact hq))) (fun _ _ => rfl)
theorem Vec.form {w : World} {S : Nat → Prop} {v : Value} {n : Nat} {f : Nat → Int} (h : Vec w S v n f) : ∃ A c, v = .slice A n c ∧ n ≤ c := by
  obtain ⟨A, c, e, h, _⟩ := h; exact ⟨A, c, e, h⟩
theorem Vec.at_ {w : World} {S : Nat → Prop} {v : Value} {n : Nat} {f : Nat → Int} (h : Vec w S v n f) (hn : 0 < n) :
    ∃ b o c, v = .slice (some ⟨b, o, none⟩) n c ∧ n ≤ c ∧ S b ∧ ∀ j, j < n → w.cell? ⟨b, o + j, none⟩ = some (.int .i64 (f j)) := by
  obtain ⟨A, c, rfl, hc, h⟩ := h
  obtain ⟨b, o, rfl, hb, hcc⟩ := h hn
  exact ⟨b, o, c, rfl, hc, hb, hcc⟩
theorem Vec.nil (w : World) (S : Nat → Prop) (f : Nat → Int) : Vec w S (.slice none 0 0) 0 f := ⟨none, 0, rfl, Nat.le_refl _, fun h => absurd h (by omega)⟩

/-- The slice v reads, in w, as m slices; the one at i reads as the n i ints f i. -/
def Grid (w : World) (S : Nat → Prop) (v : Value) (m : Nat) (n : Nat → Nat) (f : Nat → Nat → Int) : Prop :=
  ∃ A c, v = .slice A m c ∧ m ≤ c ∧ (0 < m → ∃ b o, A = some ⟨b, o, none⟩ ∧ S b ∧ ∀ i, i < m → ∃ r, w.cell? ⟨b, o + i, none⟩ = some r ∧ Vec w S r (n i) (f i))
theorem Grid.keep {w w' : World} {S S' : Nat → Prop} {v : Value} {m : Nat} {n n' : Nat → Nat} {f g : Nat → Nat → Int} (h : Grid w S v m n f) (hS : ∀ b, S b → S' b) (hk : ∀ p : Addr, S p.block → w'.cell? p = w.cell? p)
    (hn : ∀ i, i < m → n i = n' i) (hf : ∀ i, i < m → ∀ j, j < n i → f i j = g i j) : Grid w' S' v m n' g := by
  obtain ⟨A, c, rfl, hc, h⟩ := h
  refine ⟨A, c, rfl, hc, fun hn0 => ?_⟩
  obtain ⟨b, o, rfl, hb, hcc⟩ := h hn0
  refine ⟨b, o, rfl, hS _ hb, fun i hi => ?_⟩
  obtain ⟨r, h1, h2⟩ := hcc i hi
  refine ⟨r, (hk _ hb).trans h1, ?_⟩
  rw [← hn i hi]
  exact h2.keep hS hk (hf i hi)
theorem Grid.more {w : World} {S S' : Nat → Prop} {v : Value} {m : Nat} {n : Nat → Nat} {f : Nat → Nat → Int} (h : Grid w S v m n f) (hS : ∀ b, S b → S' b) : Grid w S' v m n f := h.keep hS (fun _ _ => rfl) (fun _ _ => rfl) (fun _ _ _ _ => rfl)
theorem Grid.congr {w : World} {S : Nat → Prop} {v : Value} {m : Nat} {n : Nat → Nat} {f g : Nat → Nat → Int} (h : Grid w S v m n f) (hf : ∀ i, i < m → ∀ j, j < n i → f i j = g i j) : Grid w S v m n g := h.keep (fun _ h => h) (fun _ _ => rfl) (fun _ _ => rfl) hf
theorem Grid.below {w w' : World} {S : Nat → Prop} {B : Nat} {v : Value} {m : Nat} {n : Nat → Nat} {f : Nat → Nat → Int} (h : Grid w S v m n f) (hS : ∀ b, S b → b < B) (hb : Below B w w') : Grid w' S v m n f :=
  h.keep (fun _ h => h) (fun _ hp => hb.cell (hS _ hp)) (fun _ _ => rfl) (fun _ _ _ _ => rfl)
theorem Grid.set {w : World} {S : Nat → Prop} {v : Value} {m : Nat} {n : Nat → Nat} {f : Nat → Nat → Int} (h : Grid w S v m n f) {p : Addr} (hp : ¬ S p.block) (u : Value) : Grid (w.setCell p u) S v m n f :=
  h.keep (fun _ h => h) (fun q hq => World.cell?_setCell_other _ _ _ _ (fun e => hp (by rw [e]; exact hq))) (fun _ _ => rfl) (fun _ _ _ _ => rfl)
theorem Grid.form {w : World} {S : Nat → Prop} {v : Value} {m : Nat} {n : Nat → Nat} {f : Nat → Nat → Int} (h : Grid w S v m n f) : ∃ A c, v = .slice A m c ∧ m ≤ c := by
  obtain ⟨A, c, e, h, _⟩ := h; exact ⟨A, c, e, h⟩
/-- The rows written out: their addresses and capacities. -/
theorem Grid.at_ {w : World} {S : Nat → Prop} {v : Value} {m : Nat} {n : Nat → Nat} {f : Nat → Nat → Int} (h : Grid w S v m n f) (hm : 0 < m) :
    ∃ b o c, ∃ RA : Nat → Option Addr, ∃ RC : Nat → Nat, v = .slice (some ⟨b, o, none⟩) m c ∧ m ≤ c ∧ S b ∧ ∀ i, i < m → w.cell? ⟨b, o + i, none⟩ = some (.slice (RA i) (n i) (RC i)) ∧ Vec w S (.slice (RA i) (n i) (RC i)) (n i) (f i) := by
  obtain ⟨A, c, rfl, hc, h⟩ := h
  obtain ⟨b, o, rfl, hb, hcc⟩ := h hm
  have key : ∀ i, ∃ A' c', i < m → w.cell? ⟨b, o + i, none⟩ = some (.slice A' (n i) c') ∧ Vec w S (.slice A' (n i) c') (n i) (f i) := fun i => by
    by_cases hi : i < m
    · obtain ⟨r, h1, h2⟩ := hcc i hi
      obtain ⟨A', c', rfl, _⟩ := h2.form
      exact ⟨A', c', fun _ => ⟨h1, h2⟩⟩
    · exact ⟨none, 0, fun h => absurd h hi⟩
  refine ⟨b, o, c, fun i => (key i).choose, fun i => (key i).choose_spec.choose, rfl, hc, hb, fun i hi => (key i).choose_spec.choose_spec hi⟩

/-- n cells by a function. -/
def CTab (n : Nat) (g : Nat → Value) : Array Value := Array.ofFn (n := n) fun i => g i.val
theorem CTab_get (n : Nat) (g : Nat → Value) (i : Nat) (hi : i < n) : (CTab n g)[i]? = some (g i) := by simp [CTab, hi]
theorem CTab_size (n : Nat) (g : Nat → Value) : (CTab n g).size = n := by simp [CTab]
theorem CTab_congr (n : Nat) (f g : Nat → Value) (h : ∀ i, i < n → f i = g i) : CTab n f = CTab n g := by
  apply Array.ext
  · simp [CTab]
  · intro j h1 h2
    have hj : j < n := by simpa [CTab] using h2
    simp [CTab, h j hj]
theorem CTab_set (n : Nat) (g : Nat → Value) (i : Nat) (x : Value) : (CTab n g).setIfInBounds i x = CTab n (fun j => if j = i then x else g j) := by
  apply Array.ext
  · simp [CTab]
  · intro j h1 h2
    have hj : j < n := by simpa [CTab] using h2
    rw [Array.getElem_setIfInBounds (by simpa [CTab] using hj)]
    by_cases e : i = j
    · subst e; simp [CTab]
    · simp [CTab, if_neg e, if_neg (Ne.symm e)]
/-- k cells are filled, the others hold z. -/
def part (k : Nat) (g : Nat → Value) (z : Value) (i : Nat) : Value := if i < k then g i else z
theorem part_set (n k : Nat) (g : Nat → Value) (z x : Value) (hx : x = g k) : (CTab n (part k g z)).setIfInBounds k x = CTab n (part (k + 1) g z) := by
  rw [CTab_set, hx]
  refine CTab_congr _ _ _ fun i _ => ?_
  unfold part
  by_cases e : i = k
  · subst e; simp
  · by_cases h : i < k
    · rw [if_neg e, if_pos h, if_pos (by omega)]
    · rw [if_neg e, if_neg h, if_neg (by omega)]
theorem part_zero (n : Nat) (g : Nat → Value) (z : Value) : CTab n (part 0 g z) = CTab n (fun _ => z) := CTab_congr _ _ _ fun i _ => by simp [part]
theorem part_all (n : Nat) (g : Nat → Value) (z : Value) : CTab n (part n g z) = CTab n g := CTab_congr _ _ _ fun i h => by simp [part, h]
theorem part_congr (n k : Nat) (g h : Nat → Value) (z : Value) (e : ∀ i, i < k → g i = h i) : CTab n (part k g z) = CTab n (part k h z) := CTab_congr _ _ _ fun i _ => by
  unfold part; split
  · rename_i hi; exact e i hi
  · rfl
theorem madeCells_one (x : Value) (hx : x.cells = #[x]) (n : Nat) : madeCells x.cells n = CTab n (fun _ => x) := by
  apply Array.ext
  · simp [madeCells, CTab]
  · intro i h1 h2
    simp [madeCells, CTab, hx, Nat.mod_one]
def iv (f : Nat → Int) (i : Nat) : Value := .int .i64 (f i)

theorem info3m : (Try.prog.info? 3).map (fun i => (i.zero, i.size, i.bytes)) = some (some (.int .i64 0), 1, 8) := by kernel_rfl
theorem info27m : (Try.prog.info? 22).map (fun i => (i.zero, i.size, i.bytes)) = some (some (.slice none 0 0), 1, 24) := by kernel_rfl
theorem make_ints (n : Nat) (hn : n ≤ 5864062014800) (W : World) : (Instr.makeSlice 22 (.int .i64 (n : Int)) (.int .i64 (n : Int))).run Try.prog W = .ok (.slice (some ⟨W.heap.size, 0, none⟩) n n) (W.alloc (.cells (CTab n fun _ => .int .i64 0) 3)) := by
  obtain ⟨i0, hi, hz0, hz1, hz2⟩ := info_parts info3m
  have h := run_make (P := Try.prog) W 22 3 i0 (.int .i64 0) (by kernel_rfl) hi hz0 .i64 .i64 (n : Int) (n : Int) (by omega) (by omega) (by rw [hz2]; omega) (by omega)
  rw [h, hz1, Nat.mul_one, Int.toNat_natCast, madeCells_one _ rfl]
theorem make_rows (n : Nat) (hn : n ≤ 5864062014800) (W : World) : (Instr.makeSlice 29 (.int .i64 (n : Int)) (.int .i64 (n : Int))).run Try.prog W = .ok (.slice (some ⟨W.heap.size, 0, none⟩) n n) (W.alloc (.cells (CTab n fun _ => .slice none 0 0) 22)) := by
  obtain ⟨i0, hi, hz0, hz1, hz2⟩ := info_parts info27m
  have h := run_make (P := Try.prog) W 29 22 i0 (.slice none 0 0) (by kernel_rfl) hi hz0 .i64 .i64 (n : Int) (n : Int) (by omega) (by omega) (by rw [hz2]; omega) (by omega)
  rw [h, hz1, Nat.mul_one, Int.toNat_natCast, madeCells_one _ rfl]

/-- A block of ints reads as their list. -/
theorem Row.vec {w : World} {S : Nat → Prop} {g n c : Nat} {f : Nat → Int} (h : Row w g 3 (CTab n (iv f))) (hS : S g) (hc : n ≤ c) : Vec w S (.slice (some ⟨g, 0, none⟩) n c) n f :=
  ⟨_, c, rfl, hc, fun _ => ⟨g, 0, rfl, hS, fun j hj => by rw [Nat.zero_add]; exact h.cell (CTab_get _ _ j hj)⟩⟩
theorem Row.grid {w : World} {S : Nat → Prop} {g m c : Nat} {t : TypeId} {r : Nat → Value} {n : Nat → Nat} {f : Nat → Nat → Int} (h : Row w g t (CTab m r)) (hS : S g) (hc : m ≤ c) (hr : ∀ i, i < m → Vec w S (r i) (n i) (f i)) : Grid w S (.slice (some ⟨g, 0, none⟩) m c) m n f :=
  ⟨_, c, rfl, hc, fun _ => ⟨g, 0, rfl, hS, fun i hi => ⟨r i, by rw [Nat.zero_add]; exact h.cell (CTab_get _ _ i hi), hr i hi⟩⟩⟩

/-- The blocks that are new in w'. -/
def New (w w' : World) (b : Nat) : Prop := w.heap.size ≤ b ∧ b < w'.heap.size
theorem Vec.new_lt {w w' W : World} {v : Value} {n : Nat} {f : Nat → Int} (h : Vec W (New w w') v n f) : Vec W (· < w'.heap.size) v n f := h.more fun _ h => h.2
theorem Vec.new_more {w0 w w' w1 W : World} {v : Value} {n : Nat} {f : Nat → Int} (h : Vec W (New w w') v n f) (h0 : w0.heap.size ≤ w.heap.size) (h1 : w'.heap.size ≤ w1.heap.size) : Vec W (New w0 w1) v n f := h.more fun _ h => ⟨Nat.le_trans h0 h.1, Nat.lt_of_lt_of_le h.2 h1⟩
/-- A call has given a list of ints: new memory; the old one is as it was. -/
def GivesV (w : World) (n : Nat) (f : Nat → Int) (e : Ending) (w' : World) : Prop := ∃ r, e = .returned r ∧ Vec w' (New w w') r n f ∧ Below w.heap.size w w'
theorem bcell {W w1 : World} (hb : Below W.heap.size W w1) : (∀ b o, b < W.heap.size → w1.cell? ⟨b, o, none⟩ = W.cell? ⟨b, o, none⟩) ∧ (∀ b o, b < W.heap.size → w1.frozen? ⟨b, o, none⟩ = W.frozen? ⟨b, o, none⟩) :=
  ⟨fun b o h => hb.cell (p := ⟨b, o, none⟩) h, fun b o h => hb.frozen (p := ⟨b, o, none⟩) h⟩
end Go.Proofs.Ytaieeljkalciiaa
